/- Of flow: Longest: what it does, as propositions. No condition. -/
import Derived.Test.YtebkbihhnoellaaMC
set_option linter.unusedVariables false
set_option linter.unusedSimpArgs false
namespace Go.Proofs.Ytebkbihhnoellaa
set_option maxRecDepth 100000
theorem lg_vc (M : LM) (H : LV) (P : LP) (cs : Array Value) (ty : TypeId) (off n : Nat) (a : Int) (ws rs : Array Value) (v : Int) : (run (ELg M H P) 4000 5 (lgC a) (lgM cs ty off n (.op ws))).vc (retOk 5 [] (i64 (.o v)) (lgM cs ty off n (.op rs))) (fun _ _ => False) =
    ((((a == (↑n : Int)) == false) = true → (((0 : Int) ≤ a ∧ a < (65 : Int)) ∧ True) ∧ (IsInt IntKind.i64 ws ((0 : Nat) + Int.toNat a * (1 : Nat)) ∧ True) ∧ (decide (intAt ws ((0 : Nat) + Int.toNat a * (1 : Nat)) > (0 : Int)) = true → (((0 : Int) ≤ a ∧ a < (65 : Int)) ∧ True) ∧ (IsInt IntKind.i64 ws ((0 : Nat) + Int.toNat a * (1 : Nat)) ∧ True) ∧ v = intAt ws ((0 : Nat) + Int.toNat a * (1 : Nat)) ∧ ty = ty ∧ cs = cs ∧ (22 : TypeId) = (22 : TypeId) ∧ off = off ∧ n = n ∧ (65 : TypeId) = (65 : TypeId) ∧ rs = ws ∧ (66 : TypeId) = (66 : TypeId) ∧ Fn.func (34 : Nat) = Fn.func (34 : Nat) ∧ True) ∧ (decide (intAt ws ((0 : Nat) + Int.toNat a * (1 : Nat)) > (0 : Int)) = false → ((decide (a < (0 : Int)) == false) = true → (decide (a ≥ (↑n : Int)) = true → (((0 : Int) ≤ a ∧ a < (65 : Int)) ∧ True) ∧ ((0 : Nat) + Int.toNat a * (1 : Nat) < Array.size ws ∧ True) ∧ (((0 : Int) ≤ a ∧ a < (65 : Int)) ∧ True) ∧ (IsInt IntKind.i64 (Array.setIfInBounds ws ((0 : Nat) + Int.toNat a * (1 : Nat)) (Value.int IntKind.i64 (1 : Int))) ((0 : Nat) + Int.toNat a * (1 : Nat)) ∧ True) ∧ v = intAt (Array.setIfInBounds ws ((0 : Nat) + Int.toNat a * (1 : Nat)) (Value.int IntKind.i64 (1 : Int))) ((0 : Nat) + Int.toNat a * (1 : Nat)) ∧ ty = ty ∧ cs = cs ∧ (22 : TypeId) = (22 : TypeId) ∧ off = off ∧ n = n ∧ (65 : TypeId) = (65 : TypeId) ∧ rs = Array.setIfInBounds ws ((0 : Nat) + Int.toNat a * (1 : Nat)) (Value.int IntKind.i64 (1 : Int)) ∧ (66 : TypeId) = (66 : TypeId) ∧ Fn.func (34 : Nat) = Fn.func (34 : Nat) ∧ True) ∧ (decide (a ≥ (↑n : Int)) = false → (((0 : Int) ≤ a ∧ a < (↑n : Int)) ∧ True) ∧ (IsInt IntKind.u16 cs (off + Int.toNat a * (5 : Nat) + 4) ∧ True) ∧ (((0 : Int) ≤ a ∧ a < (↑n : Int)) ∧ True) ∧ (IsInt IntKind.u8 cs (off + Int.toNat a * (5 : Nat)) ∧ True) ∧ ((intAt cs (off + Int.toNat a * (5 : Nat)) == (0 : Int)) = true → (((0 : Int) ≤ a ∧ a < (65 : Int)) ∧ True) ∧ ((0 : Nat) + Int.toNat a * (1 : Nat) < Array.size ws ∧ True) ∧ (((0 : Int) ≤ a ∧ a < (65 : Int)) ∧ True) ∧ (IsInt IntKind.i64 (Array.setIfInBounds ws ((0 : Nat) + Int.toNat a * (1 : Nat)) (Value.int IntKind.i64 (1 : Int))) ((0 : Nat) + Int.toNat a * (1 : Nat)) ∧ True) ∧ v = intAt (Array.setIfInBounds ws ((0 : Nat) + Int.toNat a * (1 : Nat)) (Value.int IntKind.i64 (1 : Int))) ((0 : Nat) + Int.toNat a * (1 : Nat)) ∧ ty = ty ∧ cs = cs ∧ (22 : TypeId) = (22 : TypeId) ∧ off = off ∧ n = n ∧ (65 : TypeId) = (65 : TypeId) ∧ rs = Array.setIfInBounds ws ((0 : Nat) + Int.toNat a * (1 : Nat)) (Value.int IntKind.i64 (1 : Int)) ∧ (66 : TypeId) = (66 : TypeId) ∧ Fn.func (34 : Nat) = Fn.func (34 : Nat) ∧ True) ∧ ((intAt cs (off + Int.toNat a * (5 : Nat)) == (0 : Int)) = false → ((intAt cs (off + Int.toNat a * (5 : Nat)) == (5 : Int)) = true → (P cs off n (IntKind.wrap IntKind.i64 (intAt cs (off + Int.toNat a * (5 : Nat) + 4))) ws ∧ True) ∧ (((0 : Int) ≤ a ∧ a < (65 : Int)) ∧ True) ∧ ((0 : Nat) + Int.toNat a * (1 : Nat) < Array.size (M cs off n (IntKind.wrap IntKind.i64 (intAt cs (off + Int.toNat a * (5 : Nat) + 4))) ws) ∧ True) ∧ (((0 : Int) ≤ a ∧ a < (65 : Int)) ∧ True) ∧ (IsInt IntKind.i64 (Array.setIfInBounds (M cs off n (IntKind.wrap IntKind.i64 (intAt cs (off + Int.toNat a * (5 : Nat) + 4))) ws) ((0 : Nat) + Int.toNat a * (1 : Nat)) (Value.int IntKind.i64 (ari BinOp.add IntKind.i64 (if H cs off n (IntKind.wrap IntKind.i64 (intAt cs (off + Int.toNat a * (5 : Nat) + 4))) > (0 : Int) then H cs off n (IntKind.wrap IntKind.i64 (intAt cs (off + Int.toNat a * (5 : Nat) + 4))) else (0 : Int)) (1 : Int)))) ((0 : Nat) + Int.toNat a * (1 : Nat)) ∧ True) ∧ v = intAt (Array.setIfInBounds (M cs off n (IntKind.wrap IntKind.i64 (intAt cs (off + Int.toNat a * (5 : Nat) + 4))) ws) ((0 : Nat) + Int.toNat a * (1 : Nat)) (Value.int IntKind.i64 (ari BinOp.add IntKind.i64 (if H cs off n (IntKind.wrap IntKind.i64 (intAt cs (off + Int.toNat a * (5 : Nat) + 4))) > (0 : Int) then H cs off n (IntKind.wrap IntKind.i64 (intAt cs (off + Int.toNat a * (5 : Nat) + 4))) else (0 : Int)) (1 : Int)))) ((0 : Nat) + Int.toNat a * (1 : Nat)) ∧ ty = ty ∧ cs = cs ∧ (22 : TypeId) = (22 : TypeId) ∧ off = off ∧ n = n ∧ (65 : TypeId) = (65 : TypeId) ∧ rs = Array.setIfInBounds (M cs off n (IntKind.wrap IntKind.i64 (intAt cs (off + Int.toNat a * (5 : Nat) + 4))) ws) ((0 : Nat) + Int.toNat a * (1 : Nat)) (Value.int IntKind.i64 (ari BinOp.add IntKind.i64 (if H cs off n (IntKind.wrap IntKind.i64 (intAt cs (off + Int.toNat a * (5 : Nat) + 4))) > (0 : Int) then H cs off n (IntKind.wrap IntKind.i64 (intAt cs (off + Int.toNat a * (5 : Nat) + 4))) else (0 : Int)) (1 : Int))) ∧ (66 : TypeId) = (66 : TypeId) ∧ Fn.func (34 : Nat) = Fn.func (34 : Nat) ∧ True) ∧ ((intAt cs (off + Int.toNat a * (5 : Nat)) == (5 : Int)) = false → ((intAt cs (off + Int.toNat a * (5 : Nat)) == (6 : Int)) = true → (((if ari BinOp.add IntKind.i64 a (1 : Int) > IntKind.wrap IntKind.i64 (intAt cs (off + Int.toNat a * (5 : Nat) + 4)) then ari BinOp.add IntKind.i64 a (1 : Int) else IntKind.wrap IntKind.i64 (intAt cs (off + Int.toNat a * (5 : Nat) + 4))) == if ari BinOp.add IntKind.i64 a (1 : Int) < IntKind.wrap IntKind.i64 (intAt cs (off + Int.toNat a * (5 : Nat) + 4)) then ari BinOp.add IntKind.i64 a (1 : Int) else IntKind.wrap IntKind.i64 (intAt cs (off + Int.toNat a * (5 : Nat) + 4))) = true → (P cs off n (if ari BinOp.add IntKind.i64 a (1 : Int) < IntKind.wrap IntKind.i64 (intAt cs (off + Int.toNat a * (5 : Nat) + 4)) then ari BinOp.add IntKind.i64 a (1 : Int) else IntKind.wrap IntKind.i64 (intAt cs (off + Int.toNat a * (5 : Nat) + 4))) ws ∧ True) ∧ (((0 : Int) ≤ a ∧ a < (65 : Int)) ∧ True) ∧ ((0 : Nat) + Int.toNat a * (1 : Nat) < Array.size (M cs off n (if ari BinOp.add IntKind.i64 a (1 : Int) < IntKind.wrap IntKind.i64 (intAt cs (off + Int.toNat a * (5 : Nat) + 4)) then ari BinOp.add IntKind.i64 a (1 : Int) else IntKind.wrap IntKind.i64 (intAt cs (off + Int.toNat a * (5 : Nat) + 4))) ws) ∧ True) ∧ (((0 : Int) ≤ a ∧ a < (65 : Int)) ∧ True) ∧ (IsInt IntKind.i64 (Array.setIfInBounds (M cs off n (if ari BinOp.add IntKind.i64 a (1 : Int) < IntKind.wrap IntKind.i64 (intAt cs (off + Int.toNat a * (5 : Nat) + 4)) then ari BinOp.add IntKind.i64 a (1 : Int) else IntKind.wrap IntKind.i64 (intAt cs (off + Int.toNat a * (5 : Nat) + 4))) ws) ((0 : Nat) + Int.toNat a * (1 : Nat)) (Value.int IntKind.i64 (ari BinOp.add IntKind.i64 (if H cs off n (if ari BinOp.add IntKind.i64 a (1 : Int) < IntKind.wrap IntKind.i64 (intAt cs (off + Int.toNat a * (5 : Nat) + 4)) then ari BinOp.add IntKind.i64 a (1 : Int) else IntKind.wrap IntKind.i64 (intAt cs (off + Int.toNat a * (5 : Nat) + 4))) > (0 : Int) then H cs off n (if ari BinOp.add IntKind.i64 a (1 : Int) < IntKind.wrap IntKind.i64 (intAt cs (off + Int.toNat a * (5 : Nat) + 4)) then ari BinOp.add IntKind.i64 a (1 : Int) else IntKind.wrap IntKind.i64 (intAt cs (off + Int.toNat a * (5 : Nat) + 4))) else (0 : Int)) (1 : Int)))) ((0 : Nat) + Int.toNat a * (1 : Nat)) ∧ True) ∧ v = intAt (Array.setIfInBounds (M cs off n (if ari BinOp.add IntKind.i64 a (1 : Int) < IntKind.wrap IntKind.i64 (intAt cs (off + Int.toNat a * (5 : Nat) + 4)) then ari BinOp.add IntKind.i64 a (1 : Int) else IntKind.wrap IntKind.i64 (intAt cs (off + Int.toNat a * (5 : Nat) + 4))) ws) ((0 : Nat) + Int.toNat a * (1 : Nat)) (Value.int IntKind.i64 (ari BinOp.add IntKind.i64 (if H cs off n (if ari BinOp.add IntKind.i64 a (1 : Int) < IntKind.wrap IntKind.i64 (intAt cs (off + Int.toNat a * (5 : Nat) + 4)) then ari BinOp.add IntKind.i64 a (1 : Int) else IntKind.wrap IntKind.i64 (intAt cs (off + Int.toNat a * (5 : Nat) + 4))) > (0 : Int) then H cs off n (if ari BinOp.add IntKind.i64 a (1 : Int) < IntKind.wrap IntKind.i64 (intAt cs (off + Int.toNat a * (5 : Nat) + 4)) then ari BinOp.add IntKind.i64 a (1 : Int) else IntKind.wrap IntKind.i64 (intAt cs (off + Int.toNat a * (5 : Nat) + 4))) else (0 : Int)) (1 : Int)))) ((0 : Nat) + Int.toNat a * (1 : Nat)) ∧ ty = ty ∧ cs = cs ∧ (22 : TypeId) = (22 : TypeId) ∧ off = off ∧ n = n ∧ (65 : TypeId) = (65 : TypeId) ∧ rs = Array.setIfInBounds (M cs off n (if ari BinOp.add IntKind.i64 a (1 : Int) < IntKind.wrap IntKind.i64 (intAt cs (off + Int.toNat a * (5 : Nat) + 4)) then ari BinOp.add IntKind.i64 a (1 : Int) else IntKind.wrap IntKind.i64 (intAt cs (off + Int.toNat a * (5 : Nat) + 4))) ws) ((0 : Nat) + Int.toNat a * (1 : Nat)) (Value.int IntKind.i64 (ari BinOp.add IntKind.i64 (if H cs off n (if ari BinOp.add IntKind.i64 a (1 : Int) < IntKind.wrap IntKind.i64 (intAt cs (off + Int.toNat a * (5 : Nat) + 4)) then ari BinOp.add IntKind.i64 a (1 : Int) else IntKind.wrap IntKind.i64 (intAt cs (off + Int.toNat a * (5 : Nat) + 4))) > (0 : Int) then H cs off n (if ari BinOp.add IntKind.i64 a (1 : Int) < IntKind.wrap IntKind.i64 (intAt cs (off + Int.toNat a * (5 : Nat) + 4)) then ari BinOp.add IntKind.i64 a (1 : Int) else IntKind.wrap IntKind.i64 (intAt cs (off + Int.toNat a * (5 : Nat) + 4))) else (0 : Int)) (1 : Int))) ∧ (66 : TypeId) = (66 : TypeId) ∧ Fn.func (34 : Nat) = Fn.func (34 : Nat) ∧ True) ∧ (((if ari BinOp.add IntKind.i64 a (1 : Int) > IntKind.wrap IntKind.i64 (intAt cs (off + Int.toNat a * (5 : Nat) + 4)) then ari BinOp.add IntKind.i64 a (1 : Int) else IntKind.wrap IntKind.i64 (intAt cs (off + Int.toNat a * (5 : Nat) + 4))) == if ari BinOp.add IntKind.i64 a (1 : Int) < IntKind.wrap IntKind.i64 (intAt cs (off + Int.toNat a * (5 : Nat) + 4)) then ari BinOp.add IntKind.i64 a (1 : Int) else IntKind.wrap IntKind.i64 (intAt cs (off + Int.toNat a * (5 : Nat) + 4))) = false → (P cs off n (if ari BinOp.add IntKind.i64 a (1 : Int) < IntKind.wrap IntKind.i64 (intAt cs (off + Int.toNat a * (5 : Nat) + 4)) then ari BinOp.add IntKind.i64 a (1 : Int) else IntKind.wrap IntKind.i64 (intAt cs (off + Int.toNat a * (5 : Nat) + 4))) ws ∧ True) ∧ (P cs off n (if ari BinOp.add IntKind.i64 a (1 : Int) > IntKind.wrap IntKind.i64 (intAt cs (off + Int.toNat a * (5 : Nat) + 4)) then ari BinOp.add IntKind.i64 a (1 : Int) else IntKind.wrap IntKind.i64 (intAt cs (off + Int.toNat a * (5 : Nat) + 4))) (M cs off n (if ari BinOp.add IntKind.i64 a (1 : Int) < IntKind.wrap IntKind.i64 (intAt cs (off + Int.toNat a * (5 : Nat) + 4)) then ari BinOp.add IntKind.i64 a (1 : Int) else IntKind.wrap IntKind.i64 (intAt cs (off + Int.toNat a * (5 : Nat) + 4))) ws) ∧ True) ∧ (((0 : Int) ≤ a ∧ a < (65 : Int)) ∧ True) ∧ ((0 : Nat) + Int.toNat a * (1 : Nat) < Array.size (M cs off n (if ari BinOp.add IntKind.i64 a (1 : Int) > IntKind.wrap IntKind.i64 (intAt cs (off + Int.toNat a * (5 : Nat) + 4)) then ari BinOp.add IntKind.i64 a (1 : Int) else IntKind.wrap IntKind.i64 (intAt cs (off + Int.toNat a * (5 : Nat) + 4))) (M cs off n (if ari BinOp.add IntKind.i64 a (1 : Int) < IntKind.wrap IntKind.i64 (intAt cs (off + Int.toNat a * (5 : Nat) + 4)) then ari BinOp.add IntKind.i64 a (1 : Int) else IntKind.wrap IntKind.i64 (intAt cs (off + Int.toNat a * (5 : Nat) + 4))) ws)) ∧ True) ∧ (((0 : Int) ≤ a ∧ a < (65 : Int)) ∧ True) ∧ (IsInt IntKind.i64 (Array.setIfInBounds (M cs off n (if ari BinOp.add IntKind.i64 a (1 : Int) > IntKind.wrap IntKind.i64 (intAt cs (off + Int.toNat a * (5 : Nat) + 4)) then ari BinOp.add IntKind.i64 a (1 : Int) else IntKind.wrap IntKind.i64 (intAt cs (off + Int.toNat a * (5 : Nat) + 4))) (M cs off n (if ari BinOp.add IntKind.i64 a (1 : Int) < IntKind.wrap IntKind.i64 (intAt cs (off + Int.toNat a * (5 : Nat) + 4)) then ari BinOp.add IntKind.i64 a (1 : Int) else IntKind.wrap IntKind.i64 (intAt cs (off + Int.toNat a * (5 : Nat) + 4))) ws)) ((0 : Nat) + Int.toNat a * (1 : Nat)) (Value.int IntKind.i64 (ari BinOp.add IntKind.i64 (if H cs off n (if ari BinOp.add IntKind.i64 a (1 : Int) > IntKind.wrap IntKind.i64 (intAt cs (off + Int.toNat a * (5 : Nat) + 4)) then ari BinOp.add IntKind.i64 a (1 : Int) else IntKind.wrap IntKind.i64 (intAt cs (off + Int.toNat a * (5 : Nat) + 4))) > if H cs off n (if ari BinOp.add IntKind.i64 a (1 : Int) < IntKind.wrap IntKind.i64 (intAt cs (off + Int.toNat a * (5 : Nat) + 4)) then ari BinOp.add IntKind.i64 a (1 : Int) else IntKind.wrap IntKind.i64 (intAt cs (off + Int.toNat a * (5 : Nat) + 4))) > (0 : Int) then H cs off n (if ari BinOp.add IntKind.i64 a (1 : Int) < IntKind.wrap IntKind.i64 (intAt cs (off + Int.toNat a * (5 : Nat) + 4)) then ari BinOp.add IntKind.i64 a (1 : Int) else IntKind.wrap IntKind.i64 (intAt cs (off + Int.toNat a * (5 : Nat) + 4))) else (0 : Int) then H cs off n (if ari BinOp.add IntKind.i64 a (1 : Int) > IntKind.wrap IntKind.i64 (intAt cs (off + Int.toNat a * (5 : Nat) + 4)) then ari BinOp.add IntKind.i64 a (1 : Int) else IntKind.wrap IntKind.i64 (intAt cs (off + Int.toNat a * (5 : Nat) + 4))) else if H cs off n (if ari BinOp.add IntKind.i64 a (1 : Int) < IntKind.wrap IntKind.i64 (intAt cs (off + Int.toNat a * (5 : Nat) + 4)) then ari BinOp.add IntKind.i64 a (1 : Int) else IntKind.wrap IntKind.i64 (intAt cs (off + Int.toNat a * (5 : Nat) + 4))) > (0 : Int) then H cs off n (if ari BinOp.add IntKind.i64 a (1 : Int) < IntKind.wrap IntKind.i64 (intAt cs (off + Int.toNat a * (5 : Nat) + 4)) then ari BinOp.add IntKind.i64 a (1 : Int) else IntKind.wrap IntKind.i64 (intAt cs (off + Int.toNat a * (5 : Nat) + 4))) else (0 : Int)) (1 : Int)))) ((0 : Nat) + Int.toNat a * (1 : Nat)) ∧ True) ∧ v = intAt (Array.setIfInBounds (M cs off n (if ari BinOp.add IntKind.i64 a (1 : Int) > IntKind.wrap IntKind.i64 (intAt cs (off + Int.toNat a * (5 : Nat) + 4)) then ari BinOp.add IntKind.i64 a (1 : Int) else IntKind.wrap IntKind.i64 (intAt cs (off + Int.toNat a * (5 : Nat) + 4))) (M cs off n (if ari BinOp.add IntKind.i64 a (1 : Int) < IntKind.wrap IntKind.i64 (intAt cs (off + Int.toNat a * (5 : Nat) + 4)) then ari BinOp.add IntKind.i64 a (1 : Int) else IntKind.wrap IntKind.i64 (intAt cs (off + Int.toNat a * (5 : Nat) + 4))) ws)) ((0 : Nat) + Int.toNat a * (1 : Nat)) (Value.int IntKind.i64 (ari BinOp.add IntKind.i64 (if H cs off n (if ari BinOp.add IntKind.i64 a (1 : Int) > IntKind.wrap IntKind.i64 (intAt cs (off + Int.toNat a * (5 : Nat) + 4)) then ari BinOp.add IntKind.i64 a (1 : Int) else IntKind.wrap IntKind.i64 (intAt cs (off + Int.toNat a * (5 : Nat) + 4))) > if H cs off n (if ari BinOp.add IntKind.i64 a (1 : Int) < IntKind.wrap IntKind.i64 (intAt cs (off + Int.toNat a * (5 : Nat) + 4)) then ari BinOp.add IntKind.i64 a (1 : Int) else IntKind.wrap IntKind.i64 (intAt cs (off + Int.toNat a * (5 : Nat) + 4))) > (0 : Int) then H cs off n (if ari BinOp.add IntKind.i64 a (1 : Int) < IntKind.wrap IntKind.i64 (intAt cs (off + Int.toNat a * (5 : Nat) + 4)) then ari BinOp.add IntKind.i64 a (1 : Int) else IntKind.wrap IntKind.i64 (intAt cs (off + Int.toNat a * (5 : Nat) + 4))) else (0 : Int) then H cs off n (if ari BinOp.add IntKind.i64 a (1 : Int) > IntKind.wrap IntKind.i64 (intAt cs (off + Int.toNat a * (5 : Nat) + 4)) then ari BinOp.add IntKind.i64 a (1 : Int) else IntKind.wrap IntKind.i64 (intAt cs (off + Int.toNat a * (5 : Nat) + 4))) else if H cs off n (if ari BinOp.add IntKind.i64 a (1 : Int) < IntKind.wrap IntKind.i64 (intAt cs (off + Int.toNat a * (5 : Nat) + 4)) then ari BinOp.add IntKind.i64 a (1 : Int) else IntKind.wrap IntKind.i64 (intAt cs (off + Int.toNat a * (5 : Nat) + 4))) > (0 : Int) then H cs off n (if ari BinOp.add IntKind.i64 a (1 : Int) < IntKind.wrap IntKind.i64 (intAt cs (off + Int.toNat a * (5 : Nat) + 4)) then ari BinOp.add IntKind.i64 a (1 : Int) else IntKind.wrap IntKind.i64 (intAt cs (off + Int.toNat a * (5 : Nat) + 4))) else (0 : Int)) (1 : Int)))) ((0 : Nat) + Int.toNat a * (1 : Nat)) ∧ ty = ty ∧ cs = cs ∧ (22 : TypeId) = (22 : TypeId) ∧ off = off ∧ n = n ∧ (65 : TypeId) = (65 : TypeId) ∧ rs = Array.setIfInBounds (M cs off n (if ari BinOp.add IntKind.i64 a (1 : Int) > IntKind.wrap IntKind.i64 (intAt cs (off + Int.toNat a * (5 : Nat) + 4)) then ari BinOp.add IntKind.i64 a (1 : Int) else IntKind.wrap IntKind.i64 (intAt cs (off + Int.toNat a * (5 : Nat) + 4))) (M cs off n (if ari BinOp.add IntKind.i64 a (1 : Int) < IntKind.wrap IntKind.i64 (intAt cs (off + Int.toNat a * (5 : Nat) + 4)) then ari BinOp.add IntKind.i64 a (1 : Int) else IntKind.wrap IntKind.i64 (intAt cs (off + Int.toNat a * (5 : Nat) + 4))) ws)) ((0 : Nat) + Int.toNat a * (1 : Nat)) (Value.int IntKind.i64 (ari BinOp.add IntKind.i64 (if H cs off n (if ari BinOp.add IntKind.i64 a (1 : Int) > IntKind.wrap IntKind.i64 (intAt cs (off + Int.toNat a * (5 : Nat) + 4)) then ari BinOp.add IntKind.i64 a (1 : Int) else IntKind.wrap IntKind.i64 (intAt cs (off + Int.toNat a * (5 : Nat) + 4))) > if H cs off n (if ari BinOp.add IntKind.i64 a (1 : Int) < IntKind.wrap IntKind.i64 (intAt cs (off + Int.toNat a * (5 : Nat) + 4)) then ari BinOp.add IntKind.i64 a (1 : Int) else IntKind.wrap IntKind.i64 (intAt cs (off + Int.toNat a * (5 : Nat) + 4))) > (0 : Int) then H cs off n (if ari BinOp.add IntKind.i64 a (1 : Int) < IntKind.wrap IntKind.i64 (intAt cs (off + Int.toNat a * (5 : Nat) + 4)) then ari BinOp.add IntKind.i64 a (1 : Int) else IntKind.wrap IntKind.i64 (intAt cs (off + Int.toNat a * (5 : Nat) + 4))) else (0 : Int) then H cs off n (if ari BinOp.add IntKind.i64 a (1 : Int) > IntKind.wrap IntKind.i64 (intAt cs (off + Int.toNat a * (5 : Nat) + 4)) then ari BinOp.add IntKind.i64 a (1 : Int) else IntKind.wrap IntKind.i64 (intAt cs (off + Int.toNat a * (5 : Nat) + 4))) else if H cs off n (if ari BinOp.add IntKind.i64 a (1 : Int) < IntKind.wrap IntKind.i64 (intAt cs (off + Int.toNat a * (5 : Nat) + 4)) then ari BinOp.add IntKind.i64 a (1 : Int) else IntKind.wrap IntKind.i64 (intAt cs (off + Int.toNat a * (5 : Nat) + 4))) > (0 : Int) then H cs off n (if ari BinOp.add IntKind.i64 a (1 : Int) < IntKind.wrap IntKind.i64 (intAt cs (off + Int.toNat a * (5 : Nat) + 4)) then ari BinOp.add IntKind.i64 a (1 : Int) else IntKind.wrap IntKind.i64 (intAt cs (off + Int.toNat a * (5 : Nat) + 4))) else (0 : Int)) (1 : Int))) ∧ (66 : TypeId) = (66 : TypeId) ∧ Fn.func (34 : Nat) = Fn.func (34 : Nat) ∧ True)) ∧ ((intAt cs (off + Int.toNat a * (5 : Nat)) == (6 : Int)) = false → (P cs off n (ari BinOp.add IntKind.i64 a (1 : Int)) ws ∧ True) ∧ (((0 : Int) ≤ a ∧ a < (65 : Int)) ∧ True) ∧ ((0 : Nat) + Int.toNat a * (1 : Nat) < Array.size (M cs off n (ari BinOp.add IntKind.i64 a (1 : Int)) ws) ∧ True) ∧ (((0 : Int) ≤ a ∧ a < (65 : Int)) ∧ True) ∧ (IsInt IntKind.i64 (Array.setIfInBounds (M cs off n (ari BinOp.add IntKind.i64 a (1 : Int)) ws) ((0 : Nat) + Int.toNat a * (1 : Nat)) (Value.int IntKind.i64 (ari BinOp.add IntKind.i64 (if H cs off n (ari BinOp.add IntKind.i64 a (1 : Int)) > (0 : Int) then H cs off n (ari BinOp.add IntKind.i64 a (1 : Int)) else (0 : Int)) (1 : Int)))) ((0 : Nat) + Int.toNat a * (1 : Nat)) ∧ True) ∧ v = intAt (Array.setIfInBounds (M cs off n (ari BinOp.add IntKind.i64 a (1 : Int)) ws) ((0 : Nat) + Int.toNat a * (1 : Nat)) (Value.int IntKind.i64 (ari BinOp.add IntKind.i64 (if H cs off n (ari BinOp.add IntKind.i64 a (1 : Int)) > (0 : Int) then H cs off n (ari BinOp.add IntKind.i64 a (1 : Int)) else (0 : Int)) (1 : Int)))) ((0 : Nat) + Int.toNat a * (1 : Nat)) ∧ ty = ty ∧ cs = cs ∧ (22 : TypeId) = (22 : TypeId) ∧ off = off ∧ n = n ∧ (65 : TypeId) = (65 : TypeId) ∧ rs = Array.setIfInBounds (M cs off n (ari BinOp.add IntKind.i64 a (1 : Int)) ws) ((0 : Nat) + Int.toNat a * (1 : Nat)) (Value.int IntKind.i64 (ari BinOp.add IntKind.i64 (if H cs off n (ari BinOp.add IntKind.i64 a (1 : Int)) > (0 : Int) then H cs off n (ari BinOp.add IntKind.i64 a (1 : Int)) else (0 : Int)) (1 : Int))) ∧ (66 : TypeId) = (66 : TypeId) ∧ Fn.func (34 : Nat) = Fn.func (34 : Nat) ∧ True))))) ∧ ((decide (a < (0 : Int)) == false) = false → (((0 : Int) ≤ a ∧ a < (65 : Int)) ∧ True) ∧ ((0 : Nat) + Int.toNat a * (1 : Nat) < Array.size ws ∧ True) ∧ (((0 : Int) ≤ a ∧ a < (65 : Int)) ∧ True) ∧ (IsInt IntKind.i64 (Array.setIfInBounds ws ((0 : Nat) + Int.toNat a * (1 : Nat)) (Value.int IntKind.i64 (1 : Int))) ((0 : Nat) + Int.toNat a * (1 : Nat)) ∧ True) ∧ v = intAt (Array.setIfInBounds ws ((0 : Nat) + Int.toNat a * (1 : Nat)) (Value.int IntKind.i64 (1 : Int))) ((0 : Nat) + Int.toNat a * (1 : Nat)) ∧ ty = ty ∧ cs = cs ∧ (22 : TypeId) = (22 : TypeId) ∧ off = off ∧ n = n ∧ (65 : TypeId) = (65 : TypeId) ∧ rs = Array.setIfInBounds ws ((0 : Nat) + Int.toNat a * (1 : Nat)) (Value.int IntKind.i64 (1 : Int)) ∧ (66 : TypeId) = (66 : TypeId) ∧ Fn.func (34 : Nat) = Fn.func (34 : Nat) ∧ True))) ∧ (((a == (↑n : Int)) == false) = false → (((0 : Int) ≤ a ∧ a < (65 : Int)) ∧ True) ∧ (IsInt IntKind.i64 ws ((0 : Nat) + Int.toNat a * (1 : Nat)) ∧ True) ∧ v = intAt ws ((0 : Nat) + Int.toNat a * (1 : Nat)) ∧ ty = ty ∧ cs = cs ∧ (22 : TypeId) = (22 : TypeId) ∧ off = off ∧ n = n ∧ (65 : TypeId) = (65 : TypeId) ∧ rs = ws ∧ (66 : TypeId) = (66 : TypeId) ∧ Fn.func (34 : Nat) = Fn.func (34 : Nat) ∧ True)) := by kernel_rfl
end Go.Proofs.Ytebkbihhnoellaa
/- Of flow: the longest way, as mathematics. No condition. -/
namespace Go.Proofs.Ytebkbihhnoellaa
set_option linter.unusedSectionVars false
set_option maxRecDepth 100000
def mxL (f : Nat → Nat) : List Nat → Nat
  | [] => 0
  | b :: l => max (f b) (mxL f l)
theorem mxL_congr {f g : Nat → Nat} : ∀ {l : List Nat}, (∀ b ∈ l, f b = g b) → mxL f l = mxL g l
  | [], _ => rfl
  | b :: l, h => by
    show max _ _ = max _ _
    rw [h b (List.mem_cons_self ..), mxL_congr fun c hc => h c (List.mem_cons_of_mem _ hc)]
theorem mxL_ge {f : Nat → Nat} : ∀ {l : List Nat} {b : Nat}, b ∈ l → f b ≤ mxL f l
  | c :: l, b, h => by
    show _ ≤ max _ _
    rcases List.mem_cons.1 h with rfl | h
    · omega
    · have := mxL_ge (f := f) h; omega
theorem mxL_ex {f : Nat → Nat} : ∀ {l : List Nat}, mxL f l ≠ 0 → ∃ b ∈ l, f b = mxL f l
  | [], h => absurd rfl h
  | c :: l, h => by
    have h : max (f c) (mxL f l) ≠ 0 := h
    show ∃ b ∈ _, f b = max (f c) (mxL f l)
    by_cases e : mxL f l ≤ f c
    · exact ⟨c, List.mem_cons_self .., by omega⟩
    · obtain ⟨b, hb, h2⟩ := mxL_ex (f := f) (l := l) (by omega)
      exact ⟨b, List.mem_cons_of_mem _ hb, by omega⟩
/-- The longest way from a place, of at most so many places. -/
def hgt (nx : Nat → List Nat) (n : Nat) : Nat → Nat → Nat
  | 0, _ => 0
  | k + 1, i => if n ≤ i then 0 else mxL (hgt nx n k) (nx i) + 1
theorem hgt_succ {nx : Nat → List Nat} {n k i : Nat} : hgt nx n (k + 1) i = if n ≤ i then 0 else mxL (hgt nx n k) (nx i) + 1 := rfl
theorem hgt_le {nx : Nat → List Nat} {n : Nat} : ∀ (k i : Nat), hgt nx n k i ≤ k
  | 0, _ => Nat.le_refl _
  | k + 1, i => by
    rw [hgt_succ]
    split
    · omega
    · by_cases e : mxL (hgt nx n k) (nx i) = 0
      · omega
      · obtain ⟨b, _, h⟩ := mxL_ex e
        have := hgt_le (nx := nx) (n := n) k b
        omega
theorem cnt_sub {f g : Nat → Bool} (h : ∀ j, f j = true → g j = true) : ∀ n, cnt f n ≤ cnt g n
  | 0 => Nat.le_refl _
  | n + 1 => by
    have := cnt_sub h n
    cases hf : f n with
    | true => rw [cnt_yes hf, cnt_yes (h n hf)]; omega
    | false => rw [cnt_no hf]; have := cnt_mono g (show n ≤ n + 1 by omega); omega
theorem cnt_less {f g : Nat → Bool} (h : ∀ j, f j = true → g j = true) {a : Nat} (h1 : f a = false) (h2 : g a = true) : ∀ {n}, a < n → cnt f n < cnt g n
  | n + 1, hn => by
    by_cases e : a = n
    · subst e
      rw [cnt_no h1, cnt_yes h2]
      have := cnt_sub h a
      omega
    · have := cnt_less h h1 h2 (n := n) (by omega)
      cases hf : f n with
      | true => rw [cnt_yes hf, cnt_yes (h n hf)]; omega
      | false => rw [cnt_no hf]; have := cnt_mono g (show n ≤ n + 1 by omega); omega
/-- How many places lie behind one. -/
def rnk (cs : Array Value) (off n i : Nat) : Nat := cnt (fun j => bitW (behW cs off n i) j && decide (j ≤ n)) (n + 1)
def NoLoop (cs : Array Value) (off n : Nat) : Prop := ∀ i, i ≤ n → cycB cs off n i = false
section
variable {off n : Nat} {cs : Array Value} (hI : InsOk cs off n) (hM : mayV cs off n = true)
include hI hM
theorem met_iff {i : Nat} : metB cs off n i = true ↔ Rch (toL cs off n) (-1) 0 i := frW_iff (i := 0) (s := -1) hI hM (Nat.zero_le _) i
theorem met_to {i b : Nat} (h : metB cs off n i = true) (hb : b ∈ toL cs off n i) : metB cs off n b = true := by
  rw [met_iff hI hM] at *
  exact .step h hb (by omega)
theorem rnk_lt (hN : NoLoop cs off n) {i b : Nat} (hi : i ≤ n) (h : metB cs off n i = true) (hb : b ∈ toL cs off n i) : rnk cs off n b < rnk cs off n i := by
  have hbn := toL_le hI hM i hi b hb
  have hm := met_to hI hM h hb
  have hc := hN b hbn
  unfold cycB at hc
  rw [hm, Bool.true_and] at hc
  refine cnt_less (a := b) (fun j hj => ?_) ?_ ?_ (by omega)
  · simp only [Bool.and_eq_true, decide_eq_true_eq] at hj ⊢
    obtain ⟨h1, h2⟩ := hj
    obtain ⟨c, hc, h1⟩ := (behW_iff hI hM hbn h2).1 h1
    exact ⟨(behW_iff hI hM hi h2).2 ⟨b, hb, Rch.head (by omega) hc h1⟩, h2⟩
  · rw [hc]; rfl
  · rw [(behW_iff hI hM hi hbn).2 ⟨b, hb, .refl (by omega)⟩, decide_eq_true hbn]; rfl
theorem rnk_le (i : Nat) : rnk cs off n i ≤ 65 := by
  have := cnt_le (fun j => bitW (behW cs off n i) j && decide (j ≤ n)) (n + 1)
  have := (mayV_iff.1 hM).1
  unfold rnk
  omega
theorem hgt_stab (hN : NoLoop cs off n) : ∀ (k i : Nat), i ≤ n → metB cs off n i = true → rnk cs off n i < k → hgt (toL cs off n) n (k + 1) i = hgt (toL cs off n) n k i
  | 0, _, _, _, h => absurd h (Nat.not_lt_zero _)
  | k + 1, i, hi, hm, h => by
    rw [hgt_succ, hgt_succ]
    split
    · rfl
    · congr 1
      refine mxL_congr fun b hb => ?_
      have := rnk_lt hI hM hN hi hm hb
      exact hgt_stab hN k b (toL_le hI hM i hi b hb) (met_to hI hM hm hb) (by omega)
theorem hgt_eq (hN : NoLoop cs off n) {i : Nat} (hi : i < n) (hm : metB cs off n i = true) : hgt (toL cs off n) n 66 i = mxL (hgt (toL cs off n) n 66) (toL cs off n i) + 1 := by
  have h := rnk_le hI hM i
  rw [← hgt_stab hI hM hN 66 i (by omega) hm (by omega), hgt_succ, if_neg (by omega)]
end
theorem hgt_end {nx : Nat → List Nat} {n k : Nat} : hgt nx n k n = 0 := by
  cases k with
  | zero => rfl
  | succ k => rw [hgt_succ, if_pos (Nat.le_refl _)]
/-- What a walk does to the row. -/
def lgN (nx : Nat → List Nat) (n : Nat) : Nat → Nat → Array Value → Array Value
  | 0, _, ws => ws
  | k + 1, i, ws => if i = n ∨ 0 < intAt ws i then ws else ((nx i).foldl (fun w b => lgN nx n k b w) ws).setIfInBounds i (.int .i64 (hgt nx n 66 i : Nat))
theorem lgN_succ {nx : Nat → List Nat} {n k i : Nat} {ws : Array Value} : lgN nx n (k + 1) i ws = if i = n ∨ 0 < intAt ws i then ws else ((nx i).foldl (fun w b => lgN nx n k b w) ws).setIfInBounds i (.int .i64 (hgt nx n 66 i : Nat)) := rfl
def LgOk (nx : Nat → List Nat) (n : Nat) (ws : Array Value) : Prop := ws.size = 65 ∧ ∀ j, j < 65 → IsInt .i64 ws j ∧ (intAt ws j = 0 ∨ intAt ws j = (hgt nx n 66 j : Nat))
theorem LgOk.set {nx : Nat → List Nat} {n : Nat} {ws : Array Value} (h : LgOk nx n ws) {i : Nat} (hi : i < 65) : LgOk nx n (ws.setIfInBounds i (.int .i64 (hgt nx n 66 i : Nat))) := by
  refine ⟨by rw [set_size]; exact h.1, fun j hj => ?_⟩
  by_cases e : j = i
  · subst e
    have := set_in (cs := ws) (i := j) (v := .int .i64 (hgt nx n 66 j : Nat)) (by rw [h.1]; exact hj)
    exact ⟨isI_of this, .inr (intAt_of this)⟩
  · obtain ⟨h1, h2⟩ := h.2 j hj
    have h1 : ws[j]? = some (.int .i64 (intAt ws j)) := h1
    have := set_out (cs := ws) (v := .int .i64 (hgt nx n 66 i : Nat)) e
    rw [h1] at this
    refine ⟨isI_of this, ?_⟩
    rw [intAt_of this]
    exact h2
theorem lgN_ok {nx : Nat → List Nat} {n : Nat} (hx : ∀ i, i ≤ n → ∀ j ∈ nx i, j ≤ n) (hn : n ≤ 64) : ∀ (k i : Nat) (ws : Array Value), i ≤ n → LgOk nx n ws → LgOk nx n (lgN nx n k i ws)
  | 0, _, _, _, h => h
  | k + 1, i, ws, hi, h => by
    rw [lgN_succ]
    split
    · exact h
    · refine LgOk.set ?_ (by omega)
      have go : ∀ (l : List Nat) (w : Array Value), (∀ j ∈ l, j ≤ n) → LgOk nx n w → LgOk nx n (l.foldl (fun w b => lgN nx n k b w) w) := by
        intro l
        induction l with
        | nil => intro w _ h; exact h
        | cons b l ih => intro w hl h; exact ih _ (fun j hj => hl j (List.mem_cons_of_mem _ hj)) (lgN_ok hx hn k b w (hl b (List.mem_cons_self ..)) h)
      exact go _ _ (hx i hi) h
end Go.Proofs.Ytebkbihhnoellaa
/- Of flow: Longest: its recursion. No condition. -/
namespace Go.Proofs.Ytebkbihhnoellaa
set_option linter.unusedSectionVars false
set_option maxRecDepth 100000
def lgK (k : Nat) : LM := fun cs off n a ws => lgN (toL cs off n) n k a.toNat ws
def lgH : LV := fun cs off n a => (hgt (toL cs off n) n 66 a.toNat : Nat)
def lgP (k : Nat) : LP := fun cs off n a ws => InsOk cs off n ∧ mayV cs off n = true ∧ NoLoop cs off n ∧ LgOk (toL cs off n) n ws ∧ (0 ≤ a ∧ a ≤ n) ∧ metB cs off n a.toNat = true ∧ rnk cs off n a.toNat < k
theorem fn34 : E0.fn 34 = some Try.f34 := by kernel_rfl
theorem body34 : Try.f34.body = some (Try.f34.body.getD .skip) := by kernel_rfl
theorem lg_step (k : Nat) (hE : EnvOk (ELg (lgK k) lgH (lgP k))) (cs : Array Value) (ty : TypeId) (off n : Nat) (a : Int) (ws : Array Value) (hP : lgP (k + 1) cs off n a ws) :
    Good Try.prog (fun s0 m' => s0 = i64 (.o (lgH cs off n a)) ∧ m' = lgM cs ty off n (.op (lgK (k + 1) cs off n a ws))) 5 [callFr 34 Try.f34.ntmps [i64 (.o a), pt 1, pt 3, pt 4] (Try.f34.body.getD .skip)] (lgM cs ty off n (.op ws)) := by
  obtain ⟨hI, hM, hN, hW, ⟨h0, hn⟩, hm, hr⟩ := hP
  obtain ⟨i, rfl⟩ : ∃ i : Nat, a = (i : Int) := ⟨a.toNat, by omega⟩
  have hn : i ≤ n := by omega
  rw [Int.toNat_natCast] at hm hr
  obtain ⟨n64, hA⟩ := mayV_iff.1 hM
  have hx := toL_le hI hM
  refine Good.ret [] (run_vc hE 4000 (lg_vc (lgK k) lgH (lgP k) cs ty off n i ws (lgK (k + 1) cs off n i ws) (lgH cs off n i)) ?_ (fun _ _ h => h) (fun _ _ h => h.elim))
  rw [Int.toNat_natCast]
  obtain ⟨hsz, hws⟩ := hW
  have hW : LgOk (toL cs off n) n ws := ⟨hsz, hws⟩
  obtain ⟨q1, q2⟩ := hws i (by omega)
  have p0 : 0 + i * 1 = i := by omega
  rw [p0]
  have w1 : (0 : Int) ≤ (i : Int) ∧ (i : Int) < 65 := by omega
  have eH : lgH cs off n i = (hgt (toL cs off n) n 66 i : Nat) := by unfold lgH; rw [Int.toNat_natCast]
  by_cases d1 : i = n
  · have e1 : ((i : Int) == (n : Int)) = true := by rw [beq_iff_eq]; omega
    have er : lgK (k + 1) cs off n i ws = ws := by unfold lgK; rw [Int.toNat_natCast, lgN_succ, if_pos (.inl d1)]
    have ev : lgH cs off n i = intAt ws i := by
      rw [eH, d1, hgt_end]
      rw [d1, hgt_end] at q2
      rcases q2 with q2 | q2 <;> rw [q2] <;> rfl
    simp only [e1, er, ev, w1, q1, beqT, beqF, Bool.not_true, Bool.not_false, Bool.true_eq_false, Bool.false_eq_true, false_implies, true_implies, true_and, and_true]
  have e1 : ((i : Int) == (n : Int)) = false := by rw [beq_eq_false_iff_ne]; omega
  by_cases d2 : 0 < intAt ws i
  · have e2 : decide (intAt ws i > 0) = true := decide_eq_true d2
    have er : lgK (k + 1) cs off n i ws = ws := by unfold lgK; rw [Int.toNat_natCast, lgN_succ, if_pos (.inr d2)]
    have ev : lgH cs off n i = intAt ws i := by
      rw [eH]
      rcases q2 with q2 | q2
      · omega
      · exact q2.symm
    simp only [e1, e2, er, ev, w1, q1, beqT, beqF, Bool.not_true, Bool.not_false, Bool.true_eq_false, Bool.false_eq_true, false_implies, true_implies, true_and, and_true]
  have e2 : decide (intAt ws i > 0) = false := decide_eq_false d2
  have hlt : i < n := by omega
  have er : lgK (k + 1) cs off n i ws = ((toL cs off n i).foldl (fun w b => lgN (toL cs off n) n k b w) ws).setIfInBounds i (.int .i64 (hgt (toL cs off n) n 66 i : Nat)) := by
    unfold lgK; rw [Int.toNat_natCast, lgN_succ, if_neg (by omega)]
  have hh := hgt_eq hI hM hN hlt hm
  have hb : ∀ b, hgt (toL cs off n) n 66 b ≤ 66 := hgt_le 66
  -- what is stored, and read again
  have fin : ∀ w : Array Value, LgOk (toL cs off n) n w → i < w.size ∧ IsInt .i64 (w.setIfInBounds i (.int .i64 (hgt (toL cs off n) n 66 i : Nat))) i ∧ (lgH cs off n i) = intAt (w.setIfInBounds i (.int .i64 (hgt (toL cs off n) n 66 i : Nat))) i := fun w hw => by
    have hlt : i < w.size := by rw [hw.1]; omega
    have := set_in (cs := w) (i := i) (v := .int .i64 (hgt (toL cs off n) n 66 i : Nat)) hlt
    exact ⟨hlt, isI_of this, by rw [eH, intAt_of this]⟩
  have e0 : decide ((i : Int) < 0) = false := decide_eq_false (by omega)
  have e3 : decide ((i : Int) ≥ (n : Int)) = false := decide_eq_false (by omega)
  have w6 : (0 : Int) ≤ (i : Int) ∧ (i : Int) < (n : Int) := by omega
  obtain ⟨⟨i1, i2, i3, i4, i5⟩, r1, r2, r3, r4, r5⟩ := hI.2 i hlt
  obtain ⟨_, _, _, _, k5⟩ := Ins.okN_iff.1 (hA i hlt)
  have et := toL_eq (cs := cs) (off := off) (show ¬ n ≤ i by omega)
  have hp : ∀ (b : Nat) (w : Array Value), b ∈ toL cs off n i → LgOk (toL cs off n) n w → lgP k cs off n (b : Int) w := fun b w hbm hw => by
    have h1 := hx i hn b hbm
    have h2 := rnk_lt hI hM hN hn hm hbm
    refine ⟨hI, hM, hN, hw, ⟨by omega, by omega⟩, ?_, ?_⟩
    · rw [Int.toNat_natCast]; exact met_to hI hM hm hbm
    · rw [Int.toNat_natCast]; omega
  have hok : ∀ (b : Nat) (w : Array Value), b ∈ toL cs off n i → LgOk (toL cs off n) n w → LgOk (toL cs off n) n (lgK k cs off n (b : Int) w) := fun b w hbm hw => by
    unfold lgK; rw [Int.toNat_natCast]; exact lgN_ok hx n64 k b w (hx i hn b hbm) hw
  have eV : ∀ b : Nat, lgH cs off n (b : Int) = (hgt (toL cs off n) n 66 b : Nat) := fun b => by unfold lgH; rw [Int.toNat_natCast]
  have eK : ∀ (b : Nat) (w : Array Value), lgK k cs off n (b : Int) w = lgN (toL cs off n) n k b w := fun b w => by unfold lgK; rw [Int.toNat_natCast]
  simp only [ins] at r1 r5 k5
  have eA : ari BinOp.add IntKind.i64 (i : Int) 1 = ((i + 1 : Nat) : Int) := by rw [ari_add, i64_nat (by omega)]
  have eN : IntKind.i64.wrap (intAt cs (off + i * 5 + 4)) = ((intAt cs (off + i * 5 + 4)).toNat : Int) := by rw [Go.IntWalk.i64_in _ (by omega)]; omega
  have eS : ∀ x : Nat, x < 100 → ari BinOp.add IntKind.i64 (x : Int) 1 = ((x + 1 : Nat) : Int) := fun x h => by rw [ari_add, i64_nat (by omega)]
  rw [eA, eN]
  generalize hnn : (intAt cs (off + i * 5 + 4)).toNat = nn at et ⊢
  generalize ho : intAt cs (off + i * 5) = o at et r1 k5 ⊢
  have one : ∀ b : Nat, toL cs off n i = [b] → ari BinOp.add IntKind.i64 (if lgH cs off n (b : Int) > 0 then lgH cs off n (b : Int) else 0) 1 = ((hgt (toL cs off n) n 66 i : Nat) : Int) ∧ lgK (k + 1) cs off n i ws = (lgK k cs off n (b : Int) ws).setIfInBounds i (.int .i64 (hgt (toL cs off n) n 66 i : Nat)) := fun b hl => by
    refine ⟨?_, by rw [er, hl, eK]; rfl⟩
    rw [hh, hl, eV]
    have h1 := hb b
    show _ = ((max (hgt (toL cs off n) n 66 b) 0 + 1 : Nat) : Int)
    generalize hgt (toL cs off n) n 66 b = x at h1
    rw [show (if (x : Int) > 0 then (x : Int) else 0) = ((max x 0 : Nat) : Int) by split <;> omega, eS _ (by omega)]
  by_cases o0 : o = 0
  · have f0 : (o == 0) = true := by rw [o0]; rfl
    rw [if_pos o0] at et
    have h1 : hgt (toL cs off n) n 66 i = 1 := by rw [hh, et]; rfl
    obtain ⟨z1, z2, z3⟩ := fin ws hW
    have er' : lgK (k + 1) cs off n i ws = ws.setIfInBounds i (.int .i64 1) := by rw [er, et, h1]; rfl
    rw [h1] at z2 z3
    rw [er']
    simp only [e0, e1, e2, e3, f0, w1, w6, i1, i5, q1, beqT, beqF, Bool.not_true, Bool.not_false, Bool.true_eq_false, Bool.false_eq_true, false_implies, true_implies, true_and, and_true]
    exact ⟨z1, z2, z3⟩
  have f0 : (o == 0) = false := by rw [beq_eq_false_iff_ne]; exact o0
  rw [if_neg o0] at et
  by_cases o5 : o = 5
  · have f5 : (o == 5) = true := by rw [o5]; rfl
    rw [if_pos o5] at et
    obtain ⟨y1, y2⟩ := one nn et
    have hmem : nn ∈ toL cs off n i := by rw [et]; exact List.mem_singleton.2 rfl
    obtain ⟨z1, z2, z3⟩ := fin _ (hok nn ws hmem hW)
    rw [y1, y2]
    simp only [e0, e1, e2, e3, f0, f5, w1, w6, i1, i5, q1, hp nn ws hmem hW, z1, z2, ← z3, beqT, beqF, Bool.not_true, Bool.not_false, Bool.true_eq_false, Bool.false_eq_true, false_implies, true_implies, true_and, and_true]
  have f5 : (o == 5) = false := by rw [beq_eq_false_iff_ne]; exact o5
  rw [if_neg o5] at et
  by_cases o6 : o = 6
  · have f6 : (o == 6) = true := by rw [o6]; rfl
    rw [if_pos o6] at et
    have eMin : (if ((i + 1 : Nat) : Int) < (nn : Int) then ((i + 1 : Nat) : Int) else (nn : Int)) = ((min (i + 1) nn : Nat) : Int) := by split <;> omega
    have eMax : (if ((i + 1 : Nat) : Int) > (nn : Int) then ((i + 1 : Nat) : Int) else (nn : Int)) = ((max (i + 1) nn : Nat) : Int) := by split <;> omega
    rw [eMin, eMax]
    by_cases d7 : nn = i + 1
    · have f7 : (((max (i + 1) nn : Nat) : Int) == ((min (i + 1) nn : Nat) : Int)) = true := by rw [beq_iff_eq]; omega
      rw [if_pos d7] at et
      have em : min (i + 1) nn = i + 1 := by omega
      rw [em]
      rw [em] at f7
      obtain ⟨y1, y2⟩ := one (i + 1) et
      have hmem : i + 1 ∈ toL cs off n i := by rw [et]; exact List.mem_singleton.2 rfl
      obtain ⟨z1, z2, z3⟩ := fin _ (hok (i + 1) ws hmem hW)
      rw [y1, y2]
      simp only [e0, e1, e2, e3, f0, f5, f6, f7, w1, w6, i1, i5, q1, hp (i + 1) ws hmem hW, z1, z2, ← z3, beqT, beqF, Bool.not_true, Bool.not_false, Bool.true_eq_false, Bool.false_eq_true, false_implies, true_implies, true_and, and_true]
    · have f7 : (((max (i + 1) nn : Nat) : Int) == ((min (i + 1) nn : Nat) : Int)) = false := by rw [beq_eq_false_iff_ne]; omega
      rw [if_neg d7] at et
      generalize min (i + 1) nn = x at et f7 ⊢
      generalize max (i + 1) nn = y at et f7 ⊢
      have hmx : x ∈ toL cs off n i := by rw [et]; exact List.mem_cons_self ..
      have hmy : y ∈ toL cs off n i := by rw [et]; exact List.mem_cons_of_mem _ (List.mem_singleton.2 rfl)
      have hw1 := hok x ws hmx hW
      have hw2 := hok y _ hmy hw1
      obtain ⟨z1, z2, z3⟩ := fin _ hw2
      have y1 : ari BinOp.add IntKind.i64 (if lgH cs off n (y : Int) > (if lgH cs off n (x : Int) > 0 then lgH cs off n (x : Int) else 0) then lgH cs off n (y : Int) else (if lgH cs off n (x : Int) > 0 then lgH cs off n (x : Int) else 0)) 1 = ((hgt (toL cs off n) n 66 i : Nat) : Int) := by
        rw [hh, et, eV, eV]
        have h1 := hb x
        have h2 := hb y
        show _ = ((max (hgt (toL cs off n) n 66 x) (max (hgt (toL cs off n) n 66 y) 0) + 1 : Nat) : Int)
        generalize hgt (toL cs off n) n 66 x = u at h1
        generalize hgt (toL cs off n) n 66 y = v at h2
        rw [show (if (u : Int) > 0 then (u : Int) else 0) = (u : Int) by split <;> omega, show (if (v : Int) > (u : Int) then (v : Int) else (u : Int)) = ((max u (max v 0) : Nat) : Int) by split <;> omega, eS _ (by omega)]
      have y2 : lgK (k + 1) cs off n i ws = (lgK k cs off n (y : Int) (lgK k cs off n (x : Int) ws)).setIfInBounds i (.int .i64 (hgt (toL cs off n) n 66 i : Nat)) := by
        rw [er, et, eK, eK]; rfl
      rw [y1, y2]
      simp only [e0, e1, e2, e3, f0, f5, f6, f7, w1, w6, i1, i5, q1, hp x ws hmx hW, hp y _ hmy hw1, z1, z2, ← z3, beqT, beqF, Bool.not_true, Bool.not_false, Bool.true_eq_false, Bool.false_eq_true, false_implies, true_implies, true_and, and_true]
  have f6 : (o == 6) = false := by rw [beq_eq_false_iff_ne]; exact o6
  rw [if_neg o6] at et
  obtain ⟨y1, y2⟩ := one (i + 1) et
  have hmem : i + 1 ∈ toL cs off n i := by rw [et]; exact List.mem_singleton.2 rfl
  obtain ⟨z1, z2, z3⟩ := fin _ (hok (i + 1) ws hmem hW)
  rw [y1, y2]
  simp only [e0, e1, e2, e3, f0, f5, f6, w1, w6, i1, i5, q1, hp (i + 1) ws hmem hW, z1, z2, ← z3, beqT, beqF, Bool.not_true, Bool.not_false, Bool.true_eq_false, Bool.false_eq_true, false_implies, true_implies, true_and, and_true]
end Go.Proofs.Ytebkbihhnoellaa
/- Of flow: Longest: a call of the function that calls itself, out of its states. No condition. -/
namespace Go.Proofs.Ytebkbihhnoellaa
set_option maxRecDepth 100000
theorem rdL_ok {b : Option SBlk} {ws : Array Value} (h : rdL b = some ws) : ∃ w, b = some ⟨w, 65, true⟩ ∧ rowX w = some ws := by
  unfold rdL at h
  split at h
  · split at h
    · rename_i hh
      rw [Nat.eq_of_beq_eq_true hh]
      exact ⟨_, rfl, h⟩
    · cases h
  · cases h
theorem rdF_ok {b : Option SBlk} (h : rdF b = true) : b = some ⟨.ls [.fn (.func 34) [] [.ptr 1 (.l 0), .ptr 3 (.l 0), .ptr 4 (.l 0)]], 66, true⟩ := by
  unfold rdF at h
  split at h
  · simp only [Bool.and_eq_true] at h
    obtain ⟨h1, h2, h3, h4, h5⟩ := h
    rw [Nat.eq_of_beq_eq_true h1, Nat.eq_of_beq_eq_true h2, isP_ok h3, isP_ok h4, isP_ok h5]
  · cases h
theorem arg34_ok {l : List SV} {a : Int} (h : arg34 l = some a) : ∃ x : SI, x.den = a ∧ l = [i64 x, pt 1, pt 3, pt 4] := by
  unfold arg34 at h
  split at h
  · rename_i x p q r
    split at h
    · rename_i hh
      cases h
      simp only [Bool.and_eq_true] at hh
      obtain ⟨h1, h2, h3⟩ := hh
      rw [isPt_ok h1, isPt_ok h2, isPt_ok h3]
      exact ⟨x, rfl, rfl⟩
    · cases h
  · cases h
section
variable (cs : Array Value) (ty : TypeId) (off n : Nat) (w : Array Value)
theorem lgM_get {w : SA} {i : Nat} {b : SBlk} (h : getB (lgM cs ty off n w).bl i = some b) : (i = 0 ∧ b = ⟨.raw cs, ty, false⟩) ∨ (i = 1 ∧ b = ⟨.ls [prS' off n], 22, true⟩) ∨ (i = 3 ∧ b = ⟨w, 65, true⟩) ∨ (i = 4 ∧ b = ⟨.ls [.fn (.func 34) [] [.ptr 1 (.l 0), .ptr 3 (.l 0), .ptr 4 (.l 0)]], 66, true⟩) := by
  have hk := Tr.mem_keys h
  have e : (lgM cs ty off n w).bl.keys = [0, 1, 3, 4] ∨ (lgM cs ty off n w).bl.keys = [0, 1, 4, 3] ∨ (lgM cs ty off n w).bl.keys = [0, 3, 1, 4] ∨ (lgM cs ty off n w).bl.keys = [0, 1, 3, 4] := by first | exact .inl (by kernel_rfl) | exact .inr (.inl (by kernel_rfl)) | exact .inr (.inr (.inl (by kernel_rfl)))
  have hk : i = 0 ∨ i = 1 ∨ i = 3 ∨ i = 4 := by
    rcases e with e | e | e | e <;> (rw [e] at hk; simp only [List.mem_cons, List.not_mem_nil, or_false] at hk; omega)
  rcases hk with rfl | rfl | rfl | rfl
  · exact .inl ⟨rfl, by have e : getB (lgM cs ty off n w).bl 0 = some ⟨.raw cs, ty, false⟩ := by kernel_rfl
                        exact (Option.some.inj (e.symm.trans h)).symm⟩
  · exact .inr (.inl ⟨rfl, by have e : getB (lgM cs ty off n w).bl 1 = some ⟨.ls [prS' off n], 22, true⟩ := by kernel_rfl
                              exact (Option.some.inj (e.symm.trans h)).symm⟩)
  · exact .inr (.inr (.inl ⟨rfl, by have e : getB (lgM cs ty off n w).bl 3 = some ⟨w, 65, true⟩ := by kernel_rfl
                                    exact (Option.some.inj (e.symm.trans h)).symm⟩))
  · exact .inr (.inr (.inr ⟨rfl, by
      have e : getB (lgM cs ty off n w).bl 4 = some ⟨.ls [.fn (.func 34) [] [.ptr 1 (.l 0), .ptr 3 (.l 0), .ptr 4 (.l 0)]], 66, true⟩ := by kernel_rfl
      exact (Option.some.inj (e.symm.trans h)).symm⟩))
theorem lgM_re (f : Nat → Nat) : reL f (lgM cs ty off n (.op w)).bl (lgM cs ty off n (.op w)).bl.keys = [((f 0), ⟨.raw cs, ty, false⟩), ((f 1), ⟨.ls [.f (.slice (f 0) (.o off) (.o n) .any)], 22, true⟩), ((f 3), ⟨.op w, 65, true⟩), ((f 4), ⟨.ls [.fn (.func 34) [] [.ptr (f 1) (.l 0), .ptr (f 3) (.l 0), .ptr (f 4) (.l 0)]], 66, true⟩)] := by kernel_rfl
theorem lgM_ls : lsT (lgM cs ty off n (.op w)).bl (lgM cs ty off n (.op w)).bl.keys = [(0, ⟨.raw cs, ty, false⟩), (1, ⟨.ls [.f (.slice 0 (.o off) (.o n) .any)], 22, true⟩), (3, ⟨.op w, 65, true⟩), (4, ⟨.ls [.fn (.func 34) [] [.ptr 1 (.l 0), .ptr 3 (.l 0), .ptr 4 (.l 0)]], 66, true⟩)] := by kernel_rfl
theorem lgM_next (w : SA) : (lgM cs ty off n w).next = 5 := by kernel_rfl
theorem lgM_xs (w : SA) : (lgM cs ty off n w).xs = [] := by kernel_rfl
end
theorem lg_con {M : LM} {H : LV} {P : LP} {fn : Func} {c : Code} (h1 : E0.fn 34 = some fn) (h2 : fn.body = some c)
    (hg : ∀ cs ty off n a ws, P cs off n a ws → Good Try.prog (fun s0 m' => s0 = i64 (.o (H cs off n a)) ∧ m' = lgM cs ty off n (.op (M cs off n a ws))) 5 [callFr 34 fn.ntmps [i64 (.o a), pt 1, pt 3, pt 4] c] (lgM cs ty off n (.op ws)))
    {g : FuncId} {l : List SV} {m : SMem} {t : Tree} (h : conLg M H P g l m = some t) : Con E0 g l m t := by
  unfold conLg at h
  split at h
  case h_2 => cases h
  rename_i a cs ty off n ws e1 e2 e3 e4 e6
  cases h
  simp only [Bool.and_eq_true] at e1
  obtain ⟨f1, f2, f3⟩ := e1
  cases Nat.eq_of_beq_eq_true f1
  have f2 := Nat.le_of_ble_eq_true f2
  have f3 := rdF_ok f3
  obtain ⟨x, rfl, rfl⟩ := arg34_ok e2
  have e3 := rd0_ok e3
  have e4 := rd1_ok e4
  obtain ⟨wv, e6, e7⟩ := rdL_ok e6
  intro A hA
  obtain ⟨hq, hA⟩ := Tree.sat_needs (q := [P cs off n x.den ws]) hA
  have good := hg cs ty off n x.den ws (hq _ (List.mem_cons_self ..))
  refine ⟨fn, h1, by rw [h2]; rfl, fun n0 F w0 w R args hl hR => ?_⟩
  have lt5 : ∀ {i b}, getB (lgM cs ty off n (.op ws)).bl i = some b → i < 5 := fun hb => by
    rcases lgM_get _ _ _ _ hb with ⟨rfl, _⟩ | ⟨rfl, _⟩ | ⟨rfl, _⟩ | ⟨rfl, _⟩ <;> omega
  refine (frame (m := m) (ms := lgM cs ty off n (.op ws)) (ms' := lgM cs ty off n (.op (M cs off n x.den ws))) (l := [i64 (.o x.den), pt 1, pt 3, pt 4]) (s0 := i64 (.o (H cs off n x.den))) ((E0_ok.fns _ _ h1).1) h2 good (lgM_xs ..) (ι := fun j => j) (fun _ _ _ _ h => h) ?_ ?_ ?_ ?_ ?_ ?_ hR).mono ?_
  · intro i hi
    rw [lgM_next] at hi
    omega
  · intro i b hb
    rw [lgM_next]
    have hlt := lt5 hb
    refine ⟨hlt, ?_⟩
    have cut : ∀ {a : SA} {R : Ren} {v : Array Value}, a.lt 5 = true → a.okM R v → a.okM (pull (fun j => j) 5 R) v := fun h1 h2 => SA.cutM h1 h2
    rcases lgM_get _ _ _ _ hb with ⟨rfl, rfl⟩ | ⟨rfl, rfl⟩ | ⟨rfl, rfl⟩ | ⟨rfl, rfl⟩
    · exact ⟨_, e3, rfl, fun h => h, fun R cs h => h⟩
    · exact ⟨_, e4, rfl, fun h => h, fun R cs h => cut rfl h⟩
    · exact ⟨_, e6, rfl, fun h => h, fun R cs h => rowX_ok e7 h⟩
    · exact ⟨_, f3, rfl, fun h => h, fun R cs h => cut rfl h⟩
  · intro i b hb _
    rcases lgM_get _ _ _ _ hb with ⟨rfl, rfl⟩ | ⟨rfl, rfl⟩ | ⟨rfl, rfl⟩ | ⟨rfl, rfl⟩ <;> rfl
  · intro i b hb _
    rcases lgM_get _ _ _ _ hb with ⟨rfl, rfl⟩ | ⟨rfl, rfl⟩ | ⟨rfl, rfl⟩ | ⟨rfl, rfl⟩ <;> exact ⟨_, rfl, rfl⟩
  · rw [lgM_next, lgM_next]; exact Nat.le_refl _
  · rw [lgM_next]
    match args, hl with
    | args, hl =>
      generalize args.toList = vs at hl
      match vs, hl with
      | [v1, v2, v3, v4], ⟨g1, g2, g3, g4, _⟩ =>
        refine ⟨?_, SV.cut rfl g2, SV.cut rfl g3, SV.cut rfl g4, trivial⟩
        exact g1
  · rintro v w' ⟨R', hX, hR', hv⟩
    rw [lgM_next, lgM_next, Nat.sub_self, Nat.add_zero] at hX hR'
    rw [lgM_re] at hR'
    have ep : ∀ i, i < 5 → push (fun j => j) 5 m.next i = i := fun i hi => by
      unfold push
      rw [if_pos (by simpa using hi)]
    rw [ep 0 (by omega), ep 1 (by omega), ep 3 (by omega), ep 4 (by omega)] at hR'
    have hA : A (i64 (.o (H cs off n x.den))) (outL M cs ty off n x.den ws m) := hA
    refine ⟨_, _, R', hA, ?_, ?_, ?_⟩
    · exact hX
    · unfold outL
      rw [lgM_ls]
      exact hR'
    · exact hv
theorem ELg_ok : ∀ k, EnvOk (ELg (lgK k) lgH (lgP k))
  | 0 => EnvOk.with E0_ok _ _ fun g l m t h => lg_con fn34 body34 (fun _ _ _ _ _ _ hP => absurd hP.2.2.2.2.2.2 (Nat.not_lt_zero _)) h
  | k + 1 => EnvOk.with E0_ok _ _ fun g l m t h => lg_con fn34 body34 (fun cs ty off n a ws hP => lg_step k (ELg_ok k) cs ty off n a ws hP) h
end Go.Proofs.Ytebkbihhnoellaa
/- Of flow: what the law of loops calls: their states. No condition. -/
namespace Go.Proofs.Ytebkbihhnoellaa
set_option linter.unusedVariables false
noncomputable def intR (v : Int) (s : SV) (_ : SMem) : Prop := match s with
  | .s (.c (.f (.int .i64 x))) => x.den = v
  | _ => False
noncomputable def EH : Env := ⟨Try.prog, fnOf, conE, haltAt [40002, 18003, 19003, 19007, 19012]⟩
noncomputable def hC_d0 : List SIt := sekF Try.f40 2
noncomputable def hC_d1 : List SIt := sekI Try.f33 1 [2, 3, 4]
noncomputable def hC_F (n : Nat) (rs : Array Value) (ty : TypeId) (r : Bool) (b : Int) (i : Int) : List SFr := [frOf 40 Try.f40 [(0, roS 0 n), (1, sB (.l true)), (7, i64 (.o b)), (8, i64 (.o i))] hC_d0, frOf 33 Try.f33 [(0, roS 0 n)] hC_d1]
noncomputable def hC_M (n : Nat) (rs : Array Value) (ty : TypeId) (r : Bool) (b : Int) (i : Int) : SMem := mkM 1 [(0, ⟨.pop rs, ty, false⟩)]
noncomputable def hC_n (n : Nat) (rs : Array Value) (ty : TypeId) (r : Bool) (Q : Int → Int → Prop) (fs : List SFr) (m : SMem) : Prop := (match frNth fs 0 with | some f0 => (match rdI f0 7 with | some b => (match rdI f0 8 with | some i => Q b i ∧ subOk 1 [] (hC_F n rs ty r b i) (hC_M n rs ty r b i) fs m | none => False) | none => False) | none => False)
noncomputable def hE_d0 : List SIt := sekF Try.f18 3
noncomputable def hE_F (off : Nat) (num : Nat) (cs : Array Value) (ty : TypeId) (r : Bool) (i : Int) (n : Nat) (bs : Array Value) : List SFr := [frOf 18 Try.f18 [(3, roS 1 n), (4, i64 (.o i))] hE_d0]
noncomputable def hE_M (off : Nat) (num : Nat) (cs : Array Value) (ty : TypeId) (r : Bool) (i : Int) (n : Nat) (bs : Array Value) : SMem := mkM 2 [(0, ⟨.pop cs, ty, false⟩), (1, ⟨.pop bs, 4, true⟩)]
noncomputable def hE_n (off : Nat) (num : Nat) (cs : Array Value) (ty : TypeId) (r : Bool) (Q : Int → Nat → Array Value → Prop) (fs : List SFr) (m : SMem) : Prop := (match frNth fs 0 with | some f0 => (match rdI f0 4 with | some i => (match rdSI f0 3 with | some p1 => (match rdSN f0 3 with | some n => (match rdA m p1 with | some bs => Q i n bs ∧ subOk 1 [(1, p1)] (hE_F off num cs ty r i n bs) (hE_M off num cs ty r i n bs) fs m | none => False) | none => False) | none => False) | none => False) | none => False)
noncomputable def mA_d0 : List SIt := sekF Try.f19 3
noncomputable def mA_F (off : Nat) (num : Nat) (cs : Array Value) (ty : TypeId) (v : Int) (k : Int) (ns : List (Int × Int)) : List SFr := [frOf 19 Try.f19 [(0, prS off num), (3, mpS 1), (4, i64 (.o k))] mA_d0]
noncomputable def mA_M (off : Nat) (num : Nat) (cs : Array Value) (ty : TypeId) (v : Int) (k : Int) (ns : List (Int × Int)) : SMem := mkMX 2 [(0, ⟨.pop cs, ty, false⟩)] [(1, .mapI true .i64 .b ns)]
noncomputable def mA_n (off : Nat) (num : Nat) (cs : Array Value) (ty : TypeId) (v : Int) (Q : Int → List (Int × Int) → Prop) (fs : List SFr) (m : SMem) : Prop := (match frNth fs 0 with | some f0 => (match rdI f0 4 with | some k => (match rdMp f0 3 with | some p1 => (match rdMI m p1 with | some ns => Q k ns ∧ subOk 1 [(1, p1)] (mA_F off num cs ty v k ns) (mA_M off num cs ty v k ns) fs m | none => False) | none => False) | none => False) | none => False)
noncomputable def mB_d0 : List SIt := sekF Try.f19 7
noncomputable def mB_F (off : Nat) (num : Nat) (cs : Array Value) (ty : TypeId) (v : Int) (k : Int) (s : Bool) (a : Int) (ns : List (Int × Int)) (ks : List (Int × Int)) : List SFr := [frOf 19 Try.f19 [(0, prS off num), (3, mpS 1), (4, i64 (.o k)), (5, mpS 2), (6, sB (.o s)), (7, i64 (.o a))] mB_d0]
noncomputable def mB_M (off : Nat) (num : Nat) (cs : Array Value) (ty : TypeId) (v : Int) (k : Int) (s : Bool) (a : Int) (ns : List (Int × Int)) (ks : List (Int × Int)) : SMem := mkMX 3 [(0, ⟨.pop cs, ty, false⟩)] [(1, .mapI true .i64 .b ns), (2, .mapI true .i64 .b ks)]
noncomputable def mB_n (off : Nat) (num : Nat) (cs : Array Value) (ty : TypeId) (v : Int) (Q : Int → Bool → Int → List (Int × Int) → List (Int × Int) → Prop) (fs : List SFr) (m : SMem) : Prop := (match frNth fs 0 with | some f0 => (match rdI f0 4 with | some k => (match rdBo f0 6 with | some s => (match rdI f0 7 with | some a => (match rdMp f0 3 with | some p1 => (match rdMp f0 5 with | some p2 => (match rdMI m p1 with | some ns => (match rdMI m p2 with | some ks => Q k s a ns ks ∧ subOk 1 [(1, p1), (2, p2)] (mB_F off num cs ty v k s a ns ks) (mB_M off num cs ty v k s a ns ks) fs m | none => False) | none => False) | none => False) | none => False) | none => False) | none => False) | none => False) | none => False)
noncomputable def mC_d0 : List SIt := sekF Try.f19 12
noncomputable def mC_F (off : Nat) (num : Nat) (cs : Array Value) (ty : TypeId) (v : Int) (k : Int) (a : Int) (b : Int) (ns : List (Int × Int)) (ks : List (Int × Int)) : List SFr := [frOf 19 Try.f19 [(0, prS off num), (3, mpS 1), (4, i64 (.o k)), (5, mpS 2), (6, sB (.l true)), (7, i64 (.o a)), (8, i64 (.o b))] mC_d0]
noncomputable def mC_M (off : Nat) (num : Nat) (cs : Array Value) (ty : TypeId) (v : Int) (k : Int) (a : Int) (b : Int) (ns : List (Int × Int)) (ks : List (Int × Int)) : SMem := mkMX 3 [(0, ⟨.pop cs, ty, false⟩)] [(1, .mapI true .i64 .b ns), (2, .mapI true .i64 .b ks)]
noncomputable def mC_n (off : Nat) (num : Nat) (cs : Array Value) (ty : TypeId) (v : Int) (Q : Int → Int → Int → List (Int × Int) → List (Int × Int) → Prop) (fs : List SFr) (m : SMem) : Prop := (match frNth fs 0 with | some f0 => (match rdI f0 4 with | some k => (match rdI f0 7 with | some a => (match rdI f0 8 with | some b => (match rdMp f0 3 with | some p1 => (match rdMp f0 5 with | some p2 => (match rdMI m p1 with | some ns => (match rdMI m p2 with | some ks => Q k a b ns ks ∧ subOk 1 [(1, p1), (2, p2)] (mC_F off num cs ty v k a b ns ks) (mC_M off num cs ty v k a b ns ks) fs m | none => False) | none => False) | none => False) | none => False) | none => False) | none => False) | none => False) | none => False)
noncomputable def sC_t (n : Nat) (rs : Array Value) (ty : TypeId) (r : Bool) : Tree := run EH 8000 1 [callFr 33 Try.f33.ntmps [roS 0 n, sB (.l true)] (Try.f33.body.getD .skip)] (mkM 1 [(0, ⟨.pop rs, ty, false⟩)])
noncomputable def sC_x (n : Nat) (rs : Array Value) (ty : TypeId) (r : Bool) (QhC : Int → Int → Prop) (fs : List SFr) (m : SMem) : Prop := hC_n n rs ty r QhC fs m
noncomputable def kC_t (n : Nat) (rs : Array Value) (ty : TypeId) (r : Bool) (b : Int) (i : Int) : Tree := stepT EH.go (run EH 1000) 1 (hC_F n rs ty r b i) (hC_M n rs ty r b i)
noncomputable def kC_x (n : Nat) (rs : Array Value) (ty : TypeId) (r : Bool) (b : Int) (i : Int) (QhC : Int → Int → Prop) (fs : List SFr) (m : SMem) : Prop := hC_n n rs ty r QhC fs m
noncomputable def sE5_t (off : Nat) (num : Nat) (cs : Array Value) (ty : TypeId) (r : Bool) : Tree := run EH 8000 1 [callFr 18 Try.f18.ntmps [prS off num] (Try.f18.body.getD .skip)] (prM false cs ty)
noncomputable def sE5_x (off : Nat) (num : Nat) (cs : Array Value) (ty : TypeId) (r : Bool) (QhE : Int → Nat → Array Value → Prop) (fs : List SFr) (m : SMem) : Prop := hE_n off num cs ty r QhE fs m
noncomputable def kE_t (off : Nat) (num : Nat) (cs : Array Value) (ty : TypeId) (r : Bool) (i : Int) (n : Nat) (bs : Array Value) : Tree := stepT EH.go (run EH 1000) 1 (hE_F off num cs ty r i n bs) (hE_M off num cs ty r i n bs)
noncomputable def kE_x (off : Nat) (num : Nat) (cs : Array Value) (ty : TypeId) (r : Bool) (i : Int) (n : Nat) (bs : Array Value) (QhE : Int → Nat → Array Value → Prop) (fs : List SFr) (m : SMem) : Prop := hE_n off num cs ty r QhE fs m
noncomputable def sM_t (off : Nat) (num : Nat) (cs : Array Value) (ty : TypeId) (v : Int) : Tree := run EH 8000 1 [callFr 19 Try.f19.ntmps [prS off num] (Try.f19.body.getD .skip)] (prM false cs ty)
noncomputable def sM_x (off : Nat) (num : Nat) (cs : Array Value) (ty : TypeId) (v : Int) (QmA : Int → List (Int × Int) → Prop) (fs : List SFr) (m : SMem) : Prop := mA_n off num cs ty v QmA fs m
noncomputable def kA_t (off : Nat) (num : Nat) (cs : Array Value) (ty : TypeId) (v : Int) (k : Int) (ns : List (Int × Int)) : Tree := stepT EH.go (run EH 1000) 1 (mA_F off num cs ty v k ns) (mA_M off num cs ty v k ns)
noncomputable def kA_x (off : Nat) (num : Nat) (cs : Array Value) (ty : TypeId) (v : Int) (k : Int) (ns : List (Int × Int)) (QmB : Int → Bool → Int → List (Int × Int) → List (Int × Int) → Prop) (fs : List SFr) (m : SMem) : Prop := mB_n off num cs ty v QmB fs m
noncomputable def kB_t (off : Nat) (num : Nat) (cs : Array Value) (ty : TypeId) (v : Int) (k : Int) (s : Bool) (a : Int) (ns : List (Int × Int)) (ks : List (Int × Int)) : Tree := stepT EH.go (run EH 1000) 1 (mB_F off num cs ty v k s a ns ks) (mB_M off num cs ty v k s a ns ks)
noncomputable def kB_x (off : Nat) (num : Nat) (cs : Array Value) (ty : TypeId) (v : Int) (k : Int) (s : Bool) (a : Int) (ns : List (Int × Int)) (ks : List (Int × Int)) (QmC : Int → Int → Int → List (Int × Int) → List (Int × Int) → Prop) (QmB : Int → Bool → Int → List (Int × Int) → List (Int × Int) → Prop) (QmA : Int → List (Int × Int) → Prop) (fs : List SFr) (m : SMem) : Prop := (match Nat.beq (atR fs) 19012 with | true => mC_n off num cs ty v QmC fs m | false => (match Nat.beq (atR fs) 19007 with | true => mB_n off num cs ty v QmB fs m | false => mA_n off num cs ty v QmA fs m))
noncomputable def kD_t (off : Nat) (num : Nat) (cs : Array Value) (ty : TypeId) (v : Int) (k : Int) (a : Int) (b : Int) (ns : List (Int × Int)) (ks : List (Int × Int)) : Tree := stepT EH.go (run EH 1000) 1 (mC_F off num cs ty v k a b ns ks) (mC_M off num cs ty v k a b ns ks)
noncomputable def kD_x (off : Nat) (num : Nat) (cs : Array Value) (ty : TypeId) (v : Int) (k : Int) (a : Int) (b : Int) (ns : List (Int × Int)) (ks : List (Int × Int)) (QmC : Int → Int → Int → List (Int × Int) → List (Int × Int) → Prop) (QmB : Int → Bool → Int → List (Int × Int) → List (Int × Int) → Prop) (fs : List SFr) (m : SMem) : Prop := (match Nat.beq (atR fs) 19012 with | true => mC_n off num cs ty v QmC fs m | false => mB_n off num cs ty v QmB fs m)
theorem hC_d0_ok (r : Nat → Option Nat) : TodoOk r hC_d0 hC_d0 := TodoOk.it (by kernel_rfl)
theorem hC_d1_ok (r : Nat → Option Nat) : TodoOk r hC_d1 hC_d1 := TodoOk.it (by kernel_rfl)
theorem hE_d0_ok (r : Nat → Option Nat) : TodoOk r hE_d0 hE_d0 := TodoOk.it (by kernel_rfl)
theorem mA_d0_ok (r : Nat → Option Nat) : TodoOk r mA_d0 mA_d0 := TodoOk.it (by kernel_rfl)
theorem mB_d0_ok (r : Nat → Option Nat) : TodoOk r mB_d0 mB_d0 := TodoOk.it (by kernel_rfl)
theorem mC_d0_ok (r : Nat → Option Nat) : TodoOk r mC_d0 mC_d0 := TodoOk.it (by kernel_rfl)
theorem hC_good {A : SV → SMem → Prop} {n : Nat} {rs : Array Value} {ty : TypeId} {r : Bool} {Q : Int → Int → Prop} {fs : List SFr} {m : SMem} (H : ∀ b i, Q b i → Good Try.prog A 1 (hC_F n rs ty r b i) (hC_M n rs ty r b i)) (hb : hC_n n rs ty r Q fs m) : Good Try.prog A 1 fs m := by
  unfold hC_n at hb
  split at hb
  rotate_left
  · exact hb.elim
  split at hb
  rotate_left
  · exact hb.elim
  split at hb
  rotate_left
  · exact hb.elim
  exact Good.of_sub hb.2 (H _ _ hb.1)
theorem hE_good {A : SV → SMem → Prop} {off : Nat} {num : Nat} {cs : Array Value} {ty : TypeId} {r : Bool} {Q : Int → Nat → Array Value → Prop} {fs : List SFr} {m : SMem} (H : ∀ i n bs, Q i n bs → Good Try.prog A 1 (hE_F off num cs ty r i n bs) (hE_M off num cs ty r i n bs)) (hb : hE_n off num cs ty r Q fs m) : Good Try.prog A 1 fs m := by
  unfold hE_n at hb
  split at hb
  rotate_left
  · exact hb.elim
  split at hb
  rotate_left
  · exact hb.elim
  split at hb
  rotate_left
  · exact hb.elim
  split at hb
  rotate_left
  · exact hb.elim
  split at hb
  rotate_left
  · exact hb.elim
  exact Good.of_sub hb.2 (H _ _ _ hb.1)
theorem mA_good {A : SV → SMem → Prop} {off : Nat} {num : Nat} {cs : Array Value} {ty : TypeId} {v : Int} {Q : Int → List (Int × Int) → Prop} {fs : List SFr} {m : SMem} (H : ∀ k ns, Q k ns → Good Try.prog A 1 (mA_F off num cs ty v k ns) (mA_M off num cs ty v k ns)) (hb : mA_n off num cs ty v Q fs m) : Good Try.prog A 1 fs m := by
  unfold mA_n at hb
  split at hb
  rotate_left
  · exact hb.elim
  split at hb
  rotate_left
  · exact hb.elim
  split at hb
  rotate_left
  · exact hb.elim
  split at hb
  rotate_left
  · exact hb.elim
  exact Good.of_sub hb.2 (H _ _ hb.1)
theorem mB_good {A : SV → SMem → Prop} {off : Nat} {num : Nat} {cs : Array Value} {ty : TypeId} {v : Int} {Q : Int → Bool → Int → List (Int × Int) → List (Int × Int) → Prop} {fs : List SFr} {m : SMem} (H : ∀ k s a ns ks, Q k s a ns ks → Good Try.prog A 1 (mB_F off num cs ty v k s a ns ks) (mB_M off num cs ty v k s a ns ks)) (hb : mB_n off num cs ty v Q fs m) : Good Try.prog A 1 fs m := by
  unfold mB_n at hb
  split at hb
  rotate_left
  · exact hb.elim
  split at hb
  rotate_left
  · exact hb.elim
  split at hb
  rotate_left
  · exact hb.elim
  split at hb
  rotate_left
  · exact hb.elim
  split at hb
  rotate_left
  · exact hb.elim
  split at hb
  rotate_left
  · exact hb.elim
  split at hb
  rotate_left
  · exact hb.elim
  split at hb
  rotate_left
  · exact hb.elim
  exact Good.of_sub hb.2 (H _ _ _ _ _ hb.1)
theorem mC_good {A : SV → SMem → Prop} {off : Nat} {num : Nat} {cs : Array Value} {ty : TypeId} {v : Int} {Q : Int → Int → Int → List (Int × Int) → List (Int × Int) → Prop} {fs : List SFr} {m : SMem} (H : ∀ k a b ns ks, Q k a b ns ks → Good Try.prog A 1 (mC_F off num cs ty v k a b ns ks) (mC_M off num cs ty v k a b ns ks)) (hb : mC_n off num cs ty v Q fs m) : Good Try.prog A 1 fs m := by
  unfold mC_n at hb
  split at hb
  rotate_left
  · exact hb.elim
  split at hb
  rotate_left
  · exact hb.elim
  split at hb
  rotate_left
  · exact hb.elim
  split at hb
  rotate_left
  · exact hb.elim
  split at hb
  rotate_left
  · exact hb.elim
  split at hb
  rotate_left
  · exact hb.elim
  split at hb
  rotate_left
  · exact hb.elim
  split at hb
  rotate_left
  · exact hb.elim
  exact Good.of_sub hb.2 (H _ _ _ _ _ hb.1)
theorem sC_go {A : SV → SMem → Prop} {n : Nat} {rs : Array Value} {ty : TypeId} {r : Bool} {QhC : Int → Int → Prop} {fs : List SFr} {m : SMem} (hhC : ∀ b' i', QhC b' i' → Good Try.prog A 1 (hC_F n rs ty r b' i') (hC_M n rs ty r b' i')) (hb : sC_x n rs ty r QhC fs m) : Good Try.prog A 1 fs m := by
  unfold sC_x at hb
  exact hC_good hhC hb
theorem kC_go {A : SV → SMem → Prop} {n : Nat} {rs : Array Value} {ty : TypeId} {r : Bool} {b : Int} {i : Int} {QhC : Int → Int → Prop} {fs : List SFr} {m : SMem} (hhC : ∀ b' i', QhC b' i' → Good Try.prog A 1 (hC_F n rs ty r b' i') (hC_M n rs ty r b' i')) (hb : kC_x n rs ty r b i QhC fs m) : Good Try.prog A 1 fs m := by
  unfold kC_x at hb
  exact hC_good hhC hb
theorem sE5_go {A : SV → SMem → Prop} {off : Nat} {num : Nat} {cs : Array Value} {ty : TypeId} {r : Bool} {QhE : Int → Nat → Array Value → Prop} {fs : List SFr} {m : SMem} (hhE : ∀ i' n' bs', QhE i' n' bs' → Good Try.prog A 1 (hE_F off num cs ty r i' n' bs') (hE_M off num cs ty r i' n' bs')) (hb : sE5_x off num cs ty r QhE fs m) : Good Try.prog A 1 fs m := by
  unfold sE5_x at hb
  exact hE_good hhE hb
theorem kE_go {A : SV → SMem → Prop} {off : Nat} {num : Nat} {cs : Array Value} {ty : TypeId} {r : Bool} {i : Int} {n : Nat} {bs : Array Value} {QhE : Int → Nat → Array Value → Prop} {fs : List SFr} {m : SMem} (hhE : ∀ i' n' bs', QhE i' n' bs' → Good Try.prog A 1 (hE_F off num cs ty r i' n' bs') (hE_M off num cs ty r i' n' bs')) (hb : kE_x off num cs ty r i n bs QhE fs m) : Good Try.prog A 1 fs m := by
  unfold kE_x at hb
  exact hE_good hhE hb
theorem sM_go {A : SV → SMem → Prop} {off : Nat} {num : Nat} {cs : Array Value} {ty : TypeId} {v : Int} {QmA : Int → List (Int × Int) → Prop} {fs : List SFr} {m : SMem} (hmA : ∀ k' ns', QmA k' ns' → Good Try.prog A 1 (mA_F off num cs ty v k' ns') (mA_M off num cs ty v k' ns')) (hb : sM_x off num cs ty v QmA fs m) : Good Try.prog A 1 fs m := by
  unfold sM_x at hb
  exact mA_good hmA hb
theorem kA_go {A : SV → SMem → Prop} {off : Nat} {num : Nat} {cs : Array Value} {ty : TypeId} {v : Int} {k : Int} {ns : List (Int × Int)} {QmB : Int → Bool → Int → List (Int × Int) → List (Int × Int) → Prop} {fs : List SFr} {m : SMem} (hmB : ∀ k' s' a' ns' ks', QmB k' s' a' ns' ks' → Good Try.prog A 1 (mB_F off num cs ty v k' s' a' ns' ks') (mB_M off num cs ty v k' s' a' ns' ks')) (hb : kA_x off num cs ty v k ns QmB fs m) : Good Try.prog A 1 fs m := by
  unfold kA_x at hb
  exact mB_good hmB hb
theorem kB_go {A : SV → SMem → Prop} {off : Nat} {num : Nat} {cs : Array Value} {ty : TypeId} {v : Int} {k : Int} {s : Bool} {a : Int} {ns : List (Int × Int)} {ks : List (Int × Int)} {QmC : Int → Int → Int → List (Int × Int) → List (Int × Int) → Prop} {QmB : Int → Bool → Int → List (Int × Int) → List (Int × Int) → Prop} {QmA : Int → List (Int × Int) → Prop} {fs : List SFr} {m : SMem} (hmC : ∀ k' a' b' ns' ks', QmC k' a' b' ns' ks' → Good Try.prog A 1 (mC_F off num cs ty v k' a' b' ns' ks') (mC_M off num cs ty v k' a' b' ns' ks')) (hmB : ∀ k' s' a' ns' ks', QmB k' s' a' ns' ks' → Good Try.prog A 1 (mB_F off num cs ty v k' s' a' ns' ks') (mB_M off num cs ty v k' s' a' ns' ks')) (hmA : ∀ k' ns', QmA k' ns' → Good Try.prog A 1 (mA_F off num cs ty v k' ns') (mA_M off num cs ty v k' ns')) (hb : kB_x off num cs ty v k s a ns ks QmC QmB QmA fs m) : Good Try.prog A 1 fs m := by
  unfold kB_x at hb
  split at hb
  · exact mC_good hmC hb
  split at hb
  · exact mB_good hmB hb
  exact mA_good hmA hb
theorem kD_go {A : SV → SMem → Prop} {off : Nat} {num : Nat} {cs : Array Value} {ty : TypeId} {v : Int} {k : Int} {a : Int} {b : Int} {ns : List (Int × Int)} {ks : List (Int × Int)} {QmC : Int → Int → Int → List (Int × Int) → List (Int × Int) → Prop} {QmB : Int → Bool → Int → List (Int × Int) → List (Int × Int) → Prop} {fs : List SFr} {m : SMem} (hmC : ∀ k' a' b' ns' ks', QmC k' a' b' ns' ks' → Good Try.prog A 1 (mC_F off num cs ty v k' a' b' ns' ks') (mC_M off num cs ty v k' a' b' ns' ks')) (hmB : ∀ k' s' a' ns' ks', QmB k' s' a' ns' ks' → Good Try.prog A 1 (mB_F off num cs ty v k' s' a' ns' ks') (mB_M off num cs ty v k' s' a' ns' ks')) (hb : kD_x off num cs ty v k a b ns ks QmC QmB fs m) : Good Try.prog A 1 fs m := by
  unfold kD_x at hb
  split at hb
  · exact mC_good hmC hb
  exact mB_good hmB hb
end Go.Proofs.Ytebkbihhnoellaa
/- Of flow: what the law of loops calls: their states. -/
namespace Go.Proofs.Ytebkbihhnoellaa
set_option maxRecDepth 100000
theorem sC_vc (n : Nat) (rs : Array Value) (ty : TypeId) (r : Bool) (QhC : Int → Int → Prop) : (sC_t n rs ty r).vc ((boolR r)) (sC_x n rs ty r QhC) =
    (QhC (↑n : Int) (0 : Int) ∧ CallKind.normal = CallKind.normal ∧ TodoOk (ren 1 []) hC_d0 hC_d0 ∧ n = n ∧ (↑n : Int) = (↑n : Int) ∧ (0 : Int) = (0 : Int) ∧ CallKind.normal = CallKind.normal ∧ TodoOk (ren 1 []) hC_d1 hC_d1 ∧ n = n ∧ ty = ty ∧ rs = rs ∧ True) := by kernel_rfl
theorem kC_vc (n : Nat) (rs : Array Value) (ty : TypeId) (r : Bool) (b : Int) (i : Int) (QhC : Int → Int → Prop) : (kC_t n rs ty r b i).vc ((boolR r)) (kC_x n rs ty r b i QhC) =
    ((decide (i < b) = true → (((0 : Int) ≤ i ∧ i < (↑n : Int)) ∧ True) ∧ (IsBool rs ((0 : Nat) + Int.toNat i * 1) ∧ True) ∧ ((true == boolAt rs ((0 : Nat) + Int.toNat i * 1)) = true → decide (i ≥ (0 : Int)) = r) ∧ ((true == boolAt rs ((0 : Nat) + Int.toNat i * 1)) = false → QhC b (ari BinOp.add IntKind.i64 i (1 : Int)) ∧ CallKind.normal = CallKind.normal ∧ TodoOk (ren 1 []) hC_d0 hC_d0 ∧ n = n ∧ b = b ∧ ari BinOp.add IntKind.i64 i (1 : Int) = ari BinOp.add IntKind.i64 i (1 : Int) ∧ CallKind.normal = CallKind.normal ∧ TodoOk (ren 1 []) hC_d1 hC_d1 ∧ n = n ∧ ty = ty ∧ rs = rs ∧ True)) ∧ (decide (i < b) = false → decide ((-1 : Int) ≥ (0 : Int)) = r)) := by kernel_rfl
theorem sE5_vc (off : Nat) (num : Nat) (cs : Array Value) (ty : TypeId) (r : Bool) (QhE : Int → Nat → Array Value → Prop) : (sE5_t off num cs ty r).vc ((boolR r)) (sE5_x off num cs ty r QhE) =
    ((RowOk cs off num ∧ num ≤ (64 : Nat) ∧ True) ∧ QhE (0 : Int) (num + 1) (boL (lpB cs off num) (num + 1)) ∧ CallKind.normal = CallKind.normal ∧ TodoOk (ren 1 [(1, 1)]) hE_d0 hE_d0 ∧ num + 1 = num + 1 ∧ (0 : Int) = (0 : Int) ∧ ty = ty ∧ cs = cs ∧ (4 : TypeId) = (4 : TypeId) ∧ boL (lpB cs off num) (num + 1) = boL (lpB cs off num) (num + 1) ∧ True) := by kernel_rfl
theorem kE_vc (off : Nat) (num : Nat) (cs : Array Value) (ty : TypeId) (r : Bool) (i : Int) (n : Nat) (bs : Array Value) (QhE : Int → Nat → Array Value → Prop) : (kE_t off num cs ty r i n bs).vc ((boolR r)) (kE_x off num cs ty r i n bs QhE) =
    ((decide (i < (↑n : Int)) = true → (((0 : Int) ≤ i ∧ i < (↑n : Int)) ∧ True) ∧ (IsBool bs ((0 : Nat) + Int.toNat i * 1) ∧ True) ∧ (boolAt bs ((0 : Nat) + Int.toNat i * 1) = true → false = r) ∧ (boolAt bs ((0 : Nat) + Int.toNat i * 1) = false → QhE (ari BinOp.add IntKind.i64 i (1 : Int)) n bs ∧ CallKind.normal = CallKind.normal ∧ TodoOk (ren 1 [(1, 1)]) hE_d0 hE_d0 ∧ n = n ∧ ari BinOp.add IntKind.i64 i (1 : Int) = ari BinOp.add IntKind.i64 i (1 : Int) ∧ ty = ty ∧ cs = cs ∧ (4 : TypeId) = (4 : TypeId) ∧ bs = bs ∧ True)) ∧ (decide (i < (↑n : Int)) = false → true = r)) := by kernel_rfl
theorem sM_vc (off : Nat) (num : Nat) (cs : Array Value) (ty : TypeId) (v : Int) (QmA : Int → List (Int × Int) → Prop) : (sM_t off num cs ty v).vc ((intR v)) (sM_x off num cs ty v QmA) =
    (QmA (0 : Int) (List.map (fun p => (decV (Prod.fst p), decV (Prod.snd p))) [(Value.int IntKind.i64 (0 : Int), Value.bool true)]) ∧ CallKind.normal = CallKind.normal ∧ TodoOk (ren 1 [(1, 1)]) mA_d0 mA_d0 ∧ off = off ∧ num = num ∧ (0 : Int) = (0 : Int) ∧ ty = ty ∧ cs = cs ∧ List.map (encE IntKind.i64 VK.b) (List.map (fun p => (decV (Prod.fst p), decV (Prod.snd p))) [(Value.int IntKind.i64 (0 : Int), Value.bool true)]) = [(Value.int IntKind.i64 (0 : Int), Value.bool true)] ∧ True) := by kernel_rfl
theorem kA_vc (off : Nat) (num : Nat) (cs : Array Value) (ty : TypeId) (v : Int) (k : Int) (ns : List (Int × Int)) (QmB : Int → Bool → Int → List (Int × Int) → List (Int × Int) → Prop) : (kA_t off num cs ty v k ns).vc ((intR v)) (kA_x off num cs ty v k ns QmB) =
    ((decide ((↑(List.length ns) : Int) > (0 : Int)) = true → QmB k false (0 : Int) ns (List.map (fun p => (decV (Prod.fst p), decV (Prod.snd p))) []) ∧ CallKind.normal = CallKind.normal ∧ TodoOk (ren 1 [(1, 1), (2, 2)]) mB_d0 mB_d0 ∧ off = off ∧ num = num ∧ (0 : Int) = (0 : Int) ∧ k = k ∧ false = false ∧ ty = ty ∧ cs = cs ∧ IntKind.i64 = IntKind.i64 ∧ VK.b = VK.b ∧ ns = ns ∧ List.map (encE IntKind.i64 VK.b) (List.map (fun p => (decV (Prod.fst p), decV (Prod.snd p))) []) = [] ∧ True) ∧ (decide ((↑(List.length ns) : Int) > (0 : Int)) = false → k = v)) := by kernel_rfl
theorem kB_vc (off : Nat) (num : Nat) (cs : Array Value) (ty : TypeId) (v : Int) (k : Int) (s : Bool) (a : Int) (ns : List (Int × Int)) (ks : List (Int × Int)) (QmC : Int → Int → Int → List (Int × Int) → List (Int × Int) → Prop) (QmB : Int → Bool → Int → List (Int × Int) → List (Int × Int) → Prop) (QmA : Int → List (Int × Int) → Prop) : (kB_t off num cs ty v k s a ns ks).vc ((intR v)) (kB_x off num cs ty v k s a ns ks QmC QmB QmA) =
    ((decide (a < (↑num : Int)) = true → ((!decide (getI a ns ≠ (0 : Int))) = true → QmB k s (ari BinOp.add IntKind.i64 a (1 : Int)) ns ks ∧ CallKind.normal = CallKind.normal ∧ TodoOk (ren 1 [(1, 1), (2, 2)]) mB_d0 mB_d0 ∧ off = off ∧ num = num ∧ ari BinOp.add IntKind.i64 a (1 : Int) = ari BinOp.add IntKind.i64 a (1 : Int) ∧ k = k ∧ s = s ∧ ty = ty ∧ cs = cs ∧ IntKind.i64 = IntKind.i64 ∧ VK.b = VK.b ∧ ns = ns ∧ IntKind.i64 = IntKind.i64 ∧ VK.b = VK.b ∧ ks = ks ∧ True) ∧ ((!decide (getI a ns ≠ (0 : Int))) = false → QmC k a (0 : Int) ns ks ∧ CallKind.normal = CallKind.normal ∧ TodoOk (ren 1 [(1, 1), (2, 2)]) mC_d0 mC_d0 ∧ off = off ∧ num = num ∧ a = a ∧ k = k ∧ (0 : Int) = (0 : Int) ∧ ty = ty ∧ cs = cs ∧ IntKind.i64 = IntKind.i64 ∧ VK.b = VK.b ∧ ns = ns ∧ IntKind.i64 = IntKind.i64 ∧ VK.b = VK.b ∧ ks = ks ∧ True)) ∧ (decide (a < (↑num : Int)) = false → (s = true → QmA (ari BinOp.add IntKind.i64 k (1 : Int)) ks ∧ CallKind.normal = CallKind.normal ∧ TodoOk (ren 1 [(1, 2)]) mA_d0 mA_d0 ∧ off = off ∧ num = num ∧ ari BinOp.add IntKind.i64 k (1 : Int) = ari BinOp.add IntKind.i64 k (1 : Int) ∧ ty = ty ∧ cs = cs ∧ IntKind.i64 = IntKind.i64 ∧ VK.b = VK.b ∧ ks = ks ∧ True) ∧ (s = false → QmA k ks ∧ CallKind.normal = CallKind.normal ∧ TodoOk (ren 1 [(1, 2)]) mA_d0 mA_d0 ∧ off = off ∧ num = num ∧ k = k ∧ ty = ty ∧ cs = cs ∧ IntKind.i64 = IntKind.i64 ∧ VK.b = VK.b ∧ ks = ks ∧ True))) := by kernel_rfl
theorem kD_vc (off : Nat) (num : Nat) (cs : Array Value) (ty : TypeId) (v : Int) (k : Int) (a : Int) (b : Int) (ns : List (Int × Int)) (ks : List (Int × Int)) (QmC : Int → Int → Int → List (Int × Int) → List (Int × Int) → Prop) (QmB : Int → Bool → Int → List (Int × Int) → List (Int × Int) → Prop) : (kD_t off num cs ty v k a b ns ks).vc ((intR v)) (kD_x off num cs ty v k a b ns ks QmC QmB) =
    ((decide (b ≤ (↑num : Int)) = true → (RowOk cs off num ∧ True) ∧ (edB cs off num a b = true → QmC k a (ari BinOp.add IntKind.i64 b (1 : Int)) ns (insI b (1 : Int) ks) ∧ CallKind.normal = CallKind.normal ∧ TodoOk (ren 1 [(1, 1), (2, 2)]) mC_d0 mC_d0 ∧ off = off ∧ num = num ∧ a = a ∧ k = k ∧ ari BinOp.add IntKind.i64 b (1 : Int) = ari BinOp.add IntKind.i64 b (1 : Int) ∧ ty = ty ∧ cs = cs ∧ IntKind.i64 = IntKind.i64 ∧ VK.b = VK.b ∧ ns = ns ∧ IntKind.i64 = IntKind.i64 ∧ VK.b = VK.b ∧ insI b (1 : Int) ks = insI b (1 : Int) ks ∧ True) ∧ (edB cs off num a b = false → QmC k a (ari BinOp.add IntKind.i64 b (1 : Int)) ns ks ∧ CallKind.normal = CallKind.normal ∧ TodoOk (ren 1 [(1, 1), (2, 2)]) mC_d0 mC_d0 ∧ off = off ∧ num = num ∧ a = a ∧ k = k ∧ ari BinOp.add IntKind.i64 b (1 : Int) = ari BinOp.add IntKind.i64 b (1 : Int) ∧ ty = ty ∧ cs = cs ∧ IntKind.i64 = IntKind.i64 ∧ VK.b = VK.b ∧ ns = ns ∧ IntKind.i64 = IntKind.i64 ∧ VK.b = VK.b ∧ ks = ks ∧ True)) ∧ (decide (b ≤ (↑num : Int)) = false → QmB k true (ari BinOp.add IntKind.i64 a (1 : Int)) ns ks ∧ CallKind.normal = CallKind.normal ∧ TodoOk (ren 1 [(1, 1), (2, 2)]) mB_d0 mB_d0 ∧ off = off ∧ num = num ∧ ari BinOp.add IntKind.i64 a (1 : Int) = ari BinOp.add IntKind.i64 a (1 : Int) ∧ k = k ∧ true = true ∧ ty = ty ∧ cs = cs ∧ IntKind.i64 = IntKind.i64 ∧ VK.b = VK.b ∧ ns = ns ∧ IntKind.i64 = IntKind.i64 ∧ VK.b = VK.b ∧ ks = ks ∧ True)) := by kernel_rfl
end Go.Proofs.Ytebkbihhnoellaa
/- Of flow: what the law of loops calls. No condition. -/
namespace Go.Proofs.Ytebkbihhnoellaa
set_option linter.unusedSectionVars false
set_option maxRecDepth 100000
theorem EH_ok : EnvOk EH := EnvOk.with E0_ok _ _ conE_ok
def anyB (f : Nat → Bool) : Nat → Bool
  | 0 => false
  | n + 1 => anyB f n || f n
theorem anyB_iff {f : Nat → Bool} : ∀ {n : Nat}, anyB f n = true ↔ ∃ i, i < n ∧ f i = true
  | 0 => ⟨fun h => (by cases h), fun ⟨_, h, _⟩ => absurd h (Nat.not_lt_zero _)⟩
  | n + 1 => by
    show (anyB f n || f n) = true ↔ _
    rw [Bool.or_eq_true, anyB_iff (n := n)]
    constructor
    · rintro (⟨i, h1, h2⟩ | h)
      · exact ⟨i, by omega, h2⟩
      · exact ⟨n, by omega, h⟩
    · rintro ⟨i, h1, h2⟩
      by_cases e : i = n
      · subst e; exact .inr h2
      · exact .inl ⟨i, by omega, h2⟩
theorem anyB_no {f : Nat → Bool} {n : Nat} : anyB f n = false ↔ ∀ i, i < n → f i = false := by
  constructor
  · intro h i hi
    cases hf : f i with
    | false => rfl
    | true => rw [anyB_iff.2 ⟨i, hi, hf⟩] at h; cases h
  · intro h
    cases hf : anyB f n with
    | false => rfl
    | true => obtain ⟨i, h1, h2⟩ := anyB_iff.1 hf; rw [h i h1] at h2; cases h2
theorem anyB_congr {f g : Nat → Bool} {n : Nat} (h : ∀ i, i < n → f i = g i) : anyB f n = anyB g n := by
  rw [Bool.eq_iff_iff, anyB_iff, anyB_iff]
  exact ⟨fun ⟨i, a, b⟩ => ⟨i, a, by rw [← h i a]; exact b⟩, fun ⟨i, a, b⟩ => ⟨i, a, by rw [h i a]; exact b⟩⟩
def BoOk (rs : Array Value) (n : Nat) : Prop := n < 1000 ∧ ∀ i, i < n → IsBool rs (0 + i * 1)
def anyR (rs : Array Value) (n : Nat) : Bool := anyB (fun i => boolAt rs (0 + i * 1)) n
theorem hC_round (n : Nat) (rs : Array Value) (ty : TypeId) (hB : BoOk rs n) : ∀ (K i : Nat), n - i < K → i ≤ n → (∀ j, j < i → boolAt rs (0 + j * 1) = false) → Good Try.prog (boolR (anyR rs n)) 1 (hC_F n rs ty (anyR rs n) (n : Nat) i) (hC_M n rs ty (anyR rs n) (n : Nat) i) := by
  obtain ⟨hn, hB⟩ := hB
  intro K
  induction K with
  | zero => intro i h; omega
  | succ K ih =>
    intro i hK hi hd
    refine past_vc EH_ok 1000 (kC_vc n rs ty (anyR rs n) (n : Nat) i (fun b' i' => b' = (n : Nat) ∧ i' = (i + 1 : Nat) ∧ i < n ∧ boolAt rs (0 + i * 1) = false)) ?_ (fun _ _ h => h)
      (fun fs m hb => kC_go (fun b' i' h => ?_) hb)
    · rw [i64_add1 (show i < 1000 by omega), Int.toNat_natCast]
      by_cases d : i < n
      · have e1 : decide ((i : Int) < ((n : Nat) : Int)) = true := decide_eq_true (by omega)
        have w1 : (0 : Int) ≤ (i : Int) ∧ (i : Int) < (n : Int) := by omega
        have b1 := hB i d
        cases hb : boolAt rs (0 + i * 1) with
        | true =>
          have e2 : anyR rs n = true := anyB_iff.2 ⟨i, d, hb⟩
          have e4 : decide ((i : Int) ≥ 0) = true := decide_eq_true (by omega)
          have e3 : (true == true) = true := rfl
          simp only [e1, e2, e3, e4, decide_true, w1, b1, Bool.true_eq_false, Bool.false_eq_true, false_implies, true_implies, true_and, and_true, hC_d0_ok, hC_d1_ok]
        | false =>
          have e3 : (true == false) = false := rfl
          simp only [e1, e3, decide_true, w1, d, b1, Bool.true_eq_false, Bool.false_eq_true, false_implies, true_implies, true_and, and_true, hC_d0_ok, hC_d1_ok]
      · have e1 : decide ((i : Int) < ((n : Nat) : Int)) = false := decide_eq_false (by omega)
        have e2 : decide ((-1 : Int) ≥ 0) = anyR rs n := by
          rw [decide_eq_false (by omega)]
          exact (anyB_no.2 fun j hj => hd j (by omega)).symm
        simp only [e1, e2, Bool.true_eq_false, Bool.false_eq_true, false_implies, true_implies, true_and, and_true]
    · obtain ⟨rfl, rfl, h1, h2⟩ := h
      exact ih (i + 1) (by omega) (by omega) (fun j hj => by
        by_cases e : j = i
        · rw [e]; exact h2
        · exact hd j (by omega))
theorem contains_good (n : Nat) (rs : Array Value) (ty : TypeId) (hB : BoOk rs n) : Good Try.prog (boolR (anyR rs n)) 1 [callFr 33 Try.f33.ntmps [roS 0 n, sB (.l true)] (Try.f33.body.getD .skip)] (mkM 1 [(0, ⟨.pop rs, ty, false⟩)]) := by
  refine run_vc EH_ok 8000 (sC_vc n rs ty (anyR rs n) (fun b' i' => b' = (n : Nat) ∧ i' = (0 : Nat))) ?_ (fun _ _ h => h) (fun fs m hb => sC_go (fun b' i' h => ?_) hb)
  · simp only [and_true, hC_d0_ok, hC_d1_ok]; repeat' first | exact trivial | exact rfl | apply And.intro
  · obtain ⟨rfl, rfl⟩ := h
    exact hC_round n rs ty hB _ 0 (Nat.lt_succ_self _) (Nat.zero_le _) (fun j hj => absurd hj (Nat.not_lt_zero _))
def endB (cs : Array Value) (off num : Nat) : Bool := !anyB (lpB cs off num) (num + 1)
theorem hE_round (off num : Nat) (cs : Array Value) (ty : TypeId) (hn : num ≤ 64) : ∀ (K i : Nat), num + 1 - i < K → i ≤ num + 1 → (∀ j, j < i → lpB cs off num j = false) → Good Try.prog (boolR (endB cs off num)) 1 (hE_F off num cs ty (endB cs off num) i (num + 1) (boL (lpB cs off num) (num + 1))) (hE_M off num cs ty (endB cs off num) i (num + 1) (boL (lpB cs off num) (num + 1))) := by
  intro K
  induction K with
  | zero => intro i h; omega
  | succ K ih =>
    intro i hK hi hd
    refine past_vc EH_ok 1000 (kE_vc off num cs ty (endB cs off num) i (num + 1) (boL (lpB cs off num) (num + 1)) (fun i' n' bs' => i' = (i + 1 : Nat) ∧ n' = num + 1 ∧ bs' = boL (lpB cs off num) (num + 1) ∧ i < num + 1 ∧ lpB cs off num i = false)) ?_ (fun _ _ h => h)
      (fun fs m hb => kE_go (fun i' n' bs' h => ?_) hb)
    · rw [i64_add1 (show i < 1000 by omega), Int.toNat_natCast]
      by_cases d : i < num + 1
      · have e1 : decide ((i : Int) < ((num + 1 : Nat) : Int)) = true := decide_eq_true (by omega)
        have w1 : (0 : Int) ≤ (i : Int) ∧ (i : Int) < ((num + 1 : Nat) : Int) := by omega
        obtain ⟨b1, b2⟩ := bo_at (lpB cs off num) d
        rw [b2]
        cases hb : lpB cs off num i with
        | true =>
          have e2 : false = endB cs off num := by unfold endB; rw [anyB_iff.2 ⟨i, d, hb⟩]; rfl
          simp only [e1, ← e2, decide_true, w1, b1, Bool.true_eq_false, Bool.false_eq_true, false_implies, true_implies, true_and, and_true]
        | false =>
          simp only [e1, decide_true, w1, d, b1, Bool.true_eq_false, Bool.false_eq_true, false_implies, true_implies, true_and, and_true, hE_d0_ok]
      · have e1 : decide ((i : Int) < ((num + 1 : Nat) : Int)) = false := decide_eq_false (by omega)
        have e2 : true = endB cs off num := by unfold endB; rw [anyB_no.2 fun j hj => hd j (by omega)]; rfl
        simp only [e1, ← e2, Bool.true_eq_false, Bool.false_eq_true, false_implies, true_implies, true_and, and_true]
    · obtain ⟨rfl, rfl, rfl, h1, h2⟩ := h
      exact ih (i + 1) (by omega) (by omega) (fun j hj => by
        by_cases e : j = i
        · rw [e]; exact h2
        · exact hd j (by omega))
theorem ends_good (off num : Nat) (cs : Array Value) (ty : TypeId) (hR : RowOk cs off num) (hn : num ≤ 64) : Good Try.prog (boolR (endB cs off num)) 1 [callFr 18 Try.f18.ntmps [prS off num] (Try.f18.body.getD .skip)] (prM false cs ty) := by
  refine run_vc EH_ok 8000 (sE5_vc off num cs ty (endB cs off num) (fun i' n' bs' => i' = (0 : Nat) ∧ n' = num + 1 ∧ bs' = boL (lpB cs off num) (num + 1))) ?_ (fun _ _ h => h) (fun fs m hb => sE5_go (fun i' n' bs' h => ?_) hb)
  · simp only [hR, hn, true_and, and_true, hE_d0_ok]; rfl
  · obtain ⟨rfl, rfl, rfl⟩ := h
    exact hE_round off num cs ty hn _ 0 (Nat.lt_succ_self _) (Nat.zero_le _) (fun j hj => absurd hj (Nat.not_lt_zero _))
end Go.Proofs.Ytebkbihhnoellaa
/- Of flow: the reference's Longest. No condition. -/
namespace Go.Proofs.Ytebkbihhnoellaa
set_option linter.unusedSectionVars false
set_option maxRecDepth 100000
/-- The places that are reached in so many steps. -/
def lay (e : Nat → Nat → Bool) (n : Nat) : Nat → Nat → Bool
  | 0, b => decide (b = 0)
  | j + 1, b => anyB (fun a => lay e n j a && e a b) n
def LayN (e : Nat → Nat → Bool) (n J : Nat) : Prop := (∀ j, j < J → anyB (lay e n j) n = true) ∧ anyB (lay e n J) n = false
/-- A map that says of which places below a bound a thing is so. -/
def MapIs (n : Nat) (ns : List (Int × Int)) (f : Nat → Bool) : Prop := (∀ p ∈ ns, p.2 = 1) ∧ ∀ x : Int, getI x ns ≠ 0 ↔ ∃ b : Nat, b ≤ n ∧ x = b ∧ f b = true
theorem MapIs.nil {n : Nat} {f : Nat → Bool} (h : ∀ b, b ≤ n → f b = false) : MapIs n [] f := by
  refine ⟨fun p hp => (by cases hp), fun x => ⟨fun h => (h rfl).elim, fun ⟨b, h1, _, h2⟩ => ?_⟩⟩
  rw [h b h1] at h2; cases h2
theorem MapIs.empty {n : Nat} {ns : List (Int × Int)} {f : Nat → Bool} (h : MapIs n ns f) (hf : ∀ b, b ≤ n → f b = false) : ns = [] := by
  match ns, h with
  | [], _ => rfl
  | (a, u) :: l, ⟨h1, h2⟩ =>
    have hu : u = 1 := h1 (a, u) (List.mem_cons_self ..)
    have hg : getI a ((a, u) :: l) ≠ 0 := by
      unfold getI
      simp only [lookI, if_pos]
      rw [hu]; decide
    obtain ⟨b, hb, _, h3⟩ := (h2 a).1 hg
    rw [hf b hb] at h3; cases h3
theorem MapIs.some {n : Nat} {ns : List (Int × Int)} {f : Nat → Bool} (h : MapIs n ns f) {b : Nat} (hb : b ≤ n) (hf : f b = true) : 0 < ns.length := by
  match ns, h with
  | [], ⟨_, h2⟩ => exact absurd rfl ((h2 b).2 ⟨b, hb, rfl, hf⟩)
  | _ :: _, _ => exact Nat.succ_pos _
theorem ins_mem {k v : Int} : ∀ {l : List (Int × Int)} {p : Int × Int}, p ∈ insI k v l → p.2 = v ∨ p ∈ l
  | [], p, h => by simp only [insI, List.mem_singleton] at h; exact .inl (by rw [h])
  | (a, u) :: l, p, h => by
    simp only [insI] at h
    split at h
    · rcases List.mem_cons.1 h with h | h
      · exact .inl (by rw [h])
      · exact .inr (List.mem_cons_of_mem _ h)
    · rcases List.mem_cons.1 h with h | h
      · exact .inr (by rw [h]; exact List.mem_cons_self ..)
      · rcases ins_mem h with h | h
        · exact .inl h
        · exact .inr (List.mem_cons_of_mem _ h)
theorem MapIs.ins {n : Nat} {ns : List (Int × Int)} {f g : Nat → Bool} (h : MapIs n ns f) {b : Nat} (hb : b ≤ n) (hg : ∀ c, c ≤ n → g c = (decide (c = b) || f c)) : MapIs n (insI b 1 ns) g := by
  refine ⟨fun p hp => (ins_mem hp).elim id (h.1 p), fun x => ?_⟩
  rw [get_ins]
  by_cases e : x = (b : Int)
  · rw [if_pos e]
    exact ⟨fun _ => ⟨b, hb, e, by rw [hg b hb, decide_eq_true rfl]; rfl⟩, fun _ => by decide⟩
  · rw [if_neg e, h.2 x]
    constructor
    · rintro ⟨c, h1, h2, h3⟩; exact ⟨c, h1, h2, by rw [hg c h1, h3, Bool.or_true]⟩
    · rintro ⟨c, h1, h2, h3⟩
      rw [hg c h1, decide_eq_false (by omega), Bool.false_or] at h3
      exact ⟨c, h1, h2, h3⟩
theorem MapIs.congr {n : Nat} {ns : List (Int × Int)} {f g : Nat → Bool} (h : MapIs n ns f) (hg : ∀ c, c ≤ n → g c = f c) : MapIs n ns g :=
  ⟨h.1, fun x => (h.2 x).trans ⟨fun ⟨b, h1, h2, h3⟩ => ⟨b, h1, h2, by rw [hg b h1]; exact h3⟩, fun ⟨b, h1, h2, h3⟩ => ⟨b, h1, h2, by rw [← hg b h1]; exact h3⟩⟩⟩
section
variable (off num : Nat) (cs : Array Value) (ty : TypeId) (hR : RowOk cs off num) (n64 : num ≤ 64)
/-- The edges, as the reference has them. -/
def edN (cs : Array Value) (off num a b : Nat) : Bool := edB cs off num a b
/-- What is gathered of the next layer, behind so many places. -/
def nxB (cs : Array Value) (off num j i b : Nat) : Bool := anyB (fun a => lay (edN cs off num) num j a && edN cs off num a b) i
include hR n64
theorem mC_round {J j i : Nat} {ns : List (Int × Int)} (hi : i < num) (hl : lay (edN cs off num) num j i = true)
    (H : ∀ ks, MapIs num ks (nxB cs off num j (i + 1)) → Good Try.prog (intR J) 1 (mB_F off num cs ty J j true (i + 1 : Nat) ns ks) (mB_M off num cs ty J j true (i + 1 : Nat) ns ks)) :
    ∀ (K b : Nat) (ks : List (Int × Int)), num + 1 - b < K → b ≤ num + 1 → MapIs num ks (fun c => nxB cs off num j i c || (decide (c < b) && edN cs off num i c)) → Good Try.prog (intR J) 1 (mC_F off num cs ty J j i b ns ks) (mC_M off num cs ty J j i b ns ks) := by
  intro K
  induction K with
  | zero => intro b ks h; omega
  | succ K ih =>
    intro b ks hK hb hks
    refine past_vc EH_ok 1000 (kD_vc off num cs ty J j i b ns ks (fun k' a' b' ns' ks' => k' = j ∧ a' = i ∧ b' = (b + 1 : Nat) ∧ ns' = ns ∧ b ≤ num ∧ MapIs num ks' (fun c => nxB cs off num j i c || (decide (c < b + 1) && edN cs off num i c)))
      (fun k' s' a' ns' ks' => k' = j ∧ s' = true ∧ a' = (i + 1 : Nat) ∧ ns' = ns ∧ MapIs num ks' (nxB cs off num j (i + 1)))) ?_ (fun _ _ h => h)
      (fun fs m hb => kD_go (fun k' a' b' ns' ks' h => ?_) (fun k' s' a' ns' ks' h => ?_) hb)
    · rw [i64_add1 (show b < 1000 by omega), i64_add1 (show i < 1000 by omega)]
      by_cases d : b ≤ num
      · have e1 : decide ((b : Int) ≤ (num : Int)) = true := decide_eq_true (by omega)
        cases he : edN cs off num i b with
        | true =>
          have he' : edB cs off num i b = true := he
          have hq : MapIs num (insI b 1 ks) (fun c => nxB cs off num j i c || (decide (c < b + 1) && edN cs off num i c)) := hks.ins d fun c hc => by
            by_cases e : c = b
            · subst e; rw [he]; simp
            · have : decide (c < b + 1) = decide (c < b) := by rw [Bool.eq_iff_iff, decide_eq_true_eq, decide_eq_true_eq]; omega
              rw [this, decide_eq_false e, Bool.false_or]
          simp only [e1, hR, he', hq, d, Bool.true_eq_false, Bool.false_eq_true, false_implies, true_implies, true_and, and_true, mC_d0_ok, mB_d0_ok]
        | false =>
          have he' : edB cs off num i b = false := he
          have hq : MapIs num ks (fun c => nxB cs off num j i c || (decide (c < b + 1) && edN cs off num i c)) := hks.congr fun c hc => by
            by_cases e : c = b
            · subst e; rw [he]; simp
            · have : decide (c < b + 1) = decide (c < b) := by rw [Bool.eq_iff_iff, decide_eq_true_eq, decide_eq_true_eq]; omega
              rw [this]
          simp only [e1, hR, he', hq, d, Bool.true_eq_false, Bool.false_eq_true, false_implies, true_implies, true_and, and_true, mC_d0_ok, mB_d0_ok]
      · have e1 : decide ((b : Int) ≤ (num : Int)) = false := decide_eq_false (by omega)
        have hq : MapIs num ks (nxB cs off num j (i + 1)) := hks.congr fun c hc => by
          rw [decide_eq_true (show c < b by omega), Bool.true_and]
          show (nxB cs off num j i c || (lay _ _ j i && edN cs off num i c)) = _
          rw [hl, Bool.true_and]
        simp only [e1, hq, Bool.true_eq_false, Bool.false_eq_true, false_implies, true_implies, true_and, and_true, mC_d0_ok, mB_d0_ok]
    · obtain ⟨rfl, rfl, rfl, rfl, h1, h2⟩ := h
      exact ih (b + 1) ks' (by omega) (by omega) h2
    · obtain ⟨rfl, rfl, rfl, rfl, h1⟩ := h
      exact H ks' h1
theorem mB_round {J j : Nat} {ns : List (Int × Int)} (hns : MapIs num ns (lay (edN cs off num) num j))
    (H : ∀ ks, MapIs num ks (lay (edN cs off num) num (j + 1)) → Good Try.prog (intR J) 1 (mA_F off num cs ty J (if anyB (lay (edN cs off num) num j) num = true then (j + 1 : Nat) else (j : Nat) : Int) ks) (mA_M off num cs ty J (if anyB (lay (edN cs off num) num j) num = true then (j + 1 : Nat) else (j : Nat) : Int) ks)) (hj : j < 100) :
    ∀ (K i : Nat) (ks : List (Int × Int)), num - i < K → i ≤ num → MapIs num ks (nxB cs off num j i) → Good Try.prog (intR J) 1 (mB_F off num cs ty J j (anyB (lay (edN cs off num) num j) i) i ns ks) (mB_M off num cs ty J j (anyB (lay (edN cs off num) num j) i) i ns ks) := by
  intro K
  induction K with
  | zero => intro i ks h; omega
  | succ K ih =>
    intro i ks hK hi hks
    refine past_vc EH_ok 1000 (kB_vc off num cs ty J j (anyB (lay (edN cs off num) num j) i) i ns ks
      (fun k' a' b' ns' ks' => k' = j ∧ a' = i ∧ b' = (0 : Nat) ∧ ns' = ns ∧ ks' = ks ∧ i < num ∧ lay (edN cs off num) num j i = true)
      (fun k' s' a' ns' ks' => k' = j ∧ s' = anyB (lay (edN cs off num) num j) (i + 1) ∧ a' = (i + 1 : Nat) ∧ ns' = ns ∧ i < num ∧ MapIs num ks' (nxB cs off num j (i + 1)))
      (fun k' ns' => k' = (if anyB (lay (edN cs off num) num j) num = true then (j + 1 : Nat) else (j : Nat) : Int) ∧ MapIs num ns' (lay (edN cs off num) num (j + 1)))) ?_ (fun _ _ h => h)
      (fun fs m hb => kB_go (fun k' a' b' ns' ks' h => ?_) (fun k' s' a' ns' ks' h => ?_) (fun k' ns' h => ?_) hb)
    · rw [i64_add1 (show i < 1000 by omega), i64_add1 (show j < 1000 by omega)]
      by_cases d : i < num
      · have e1 : decide ((i : Int) < (num : Int)) = true := decide_eq_true (by omega)
        have hg := hns.2 i
        cases hl : lay (edN cs off num) num j i with
        | true =>
          have e2 : decide (getI (i : Int) ns ≠ 0) = true := decide_eq_true (hg.2 ⟨i, hi, rfl, hl⟩)
          simp only [e1, e2, d, Bool.not_true, Bool.true_eq_false, Bool.false_eq_true, false_implies, true_implies, true_and, and_true, mA_d0_ok, mB_d0_ok, mC_d0_ok]
          rfl
        | false =>
          have e2 : decide (getI (i : Int) ns ≠ 0) = false := decide_eq_false fun h => by
            obtain ⟨b, _, h1, h2⟩ := hg.1 h
            have : i = b := by omega
            rw [this, h2] at hl; cases hl
          have hs : anyB (lay (edN cs off num) num j) (i + 1) = anyB (lay (edN cs off num) num j) i := by
            show (anyB _ i || _) = _
            rw [hl, Bool.or_false]
          have hq : MapIs num ks (nxB cs off num j (i + 1)) := hks.congr fun c hc => by
            show (nxB cs off num j i c || (lay _ _ j i && edN cs off num i c)) = _
            rw [hl, Bool.false_and, Bool.or_false]
          simp only [e1, e2, d, hs, hq, Bool.not_false, Bool.true_eq_false, Bool.false_eq_true, false_implies, true_implies, true_and, and_true, mA_d0_ok, mB_d0_ok, mC_d0_ok]
      · obtain rfl : i = num := by omega
        have e1 : decide ((i : Int) < ((i : Nat) : Int)) = false := decide_eq_false (by omega)
        have hq : MapIs i ks (lay (edN cs off i) i (j + 1)) := hks
        cases ha : anyB (lay (edN cs off i) i j) i with
        | true => simp only [e1, hq, if_pos, Bool.true_eq_false, Bool.false_eq_true, false_implies, true_implies, true_and, and_true, mA_d0_ok, mB_d0_ok, mC_d0_ok]
        | false => simp only [e1, hq, Bool.true_eq_false, Bool.false_eq_true, false_implies, true_implies, true_and, and_true, mA_d0_ok, mB_d0_ok, mC_d0_ok]; rfl
    · obtain ⟨rfl, rfl, rfl, rfl, rfl, h1, h2⟩ := h
      refine mC_round off num cs ty hR n64 h1 h2 (fun ks hk => ?_) _ 0 ks' (Nat.lt_succ_self _) (Nat.zero_le _) (hks.congr fun c hc => by simp)
      have hs : anyB (lay (edN cs off num) num j) (i + 1) = true := by
        show (anyB _ i || _) = _
        rw [h2, Bool.or_true]
      have := ih (i + 1) ks (by omega) (by omega) hk
      rw [hs] at this
      exact this
    · obtain ⟨rfl, rfl, rfl, rfl, h1, h2⟩ := h
      exact ih (i + 1) ks' (by omega) (by omega) h2
    · obtain ⟨rfl, h1⟩ := h
      exact H ns' h1
theorem mA_round {J : Nat} (hJ : LayN (edN cs off num) num J) (hJ66 : J < 90) : ∀ (K j : Nat) (ns : List (Int × Int)), J - j < K → j ≤ J → MapIs num ns (lay (edN cs off num) num j) → Good Try.prog (intR J) 1 (mA_F off num cs ty J j ns) (mA_M off num cs ty J j ns) := by
  obtain ⟨hJ1, hJ2⟩ := hJ
  have none : ∀ ns, MapIs num ns (lay (edN cs off num) num (J + 1)) → Good Try.prog (intR J) 1 (mA_F off num cs ty J J ns) (mA_M off num cs ty J J ns) := fun ns hns => by
    have e : ns = [] := hns.empty fun b hb => anyB_no.2 fun a ha => by rw [anyB_no.1 hJ2 a ha, Bool.false_and]
    subst e
    refine past_vc EH_ok 1000 (kA_vc off num cs ty J J [] (fun _ _ _ _ _ => False)) ?_ (fun _ _ h => h) (fun fs m hb => kA_go (fun _ _ _ _ _ h => h.elim) hb)
    have e1 : decide (((([] : List (Int × Int)).length : Nat) : Int) > 0) = false := decide_eq_false (by decide)
    simp only [e1, Bool.true_eq_false, Bool.false_eq_true, false_implies, true_implies, true_and, and_true]
  intro K
  induction K with
  | zero => intro j ns h; omega
  | succ K ih =>
    intro j ns hK hj hns
    refine past_vc EH_ok 1000 (kA_vc off num cs ty J j ns (fun k' s' a' ns' ks' => k' = j ∧ s' = false ∧ a' = (0 : Nat) ∧ ns' = ns ∧ ks' = [])) ?_ (fun _ _ h => h) (fun fs m hb => kA_go (fun k' s' a' ns' ks' h => ?_) hb)
    · by_cases d : 0 < ns.length
      · have e1 : decide ((ns.length : Int) > 0) = true := decide_eq_true (by omega)
        simp only [e1, Bool.true_eq_false, Bool.false_eq_true, false_implies, true_implies, true_and, and_true, List.map_nil, mB_d0_ok]
        rfl
      · have e1 : decide ((ns.length : Int) > 0) = false := decide_eq_false (by omega)
        have : j = J := by
          by_cases e : j = J
          · exact e
          · obtain ⟨i, h1, h2⟩ := anyB_iff.1 (hJ1 j (by omega))
            exact absurd (hns.some (b := i) (by omega) h2) d
        simp only [e1, this, Bool.true_eq_false, Bool.false_eq_true, false_implies, true_implies, true_and, and_true]
    · obtain ⟨rfl, rfl, rfl, rfl, rfl⟩ := h
      refine mB_round off num cs ty hR n64 hns (fun ks hk => ?_) (by omega) _ 0 [] (Nat.lt_succ_self _) (Nat.zero_le _) (MapIs.nil fun b _ => rfl)
      by_cases e : j = J
      · subst e
        rw [if_neg (by rw [hJ2]; decide)]
        exact none ks hk
      · rw [if_pos (hJ1 j (by omega))]
        exact ih (j + 1) ks (by omega) (by omega) hk
theorem longest_good {J : Nat} (hJ : LayN (edN cs off num) num J) (hJ66 : J < 90) : Good Try.prog (intR J) 1 [callFr 19 Try.f19.ntmps [prS off num] (Try.f19.body.getD .skip)] (prM false cs ty) := by
  refine run_vc EH_ok 8000 (sM_vc off num cs ty J (fun k' ns' => k' = (0 : Nat) ∧ ns' = [(0, 1)])) ?_ (fun _ _ h => h) (fun fs m hb => sM_go (fun k' ns' h => ?_) hb)
  · simp only [true_and, and_true, mA_d0_ok]
    exact ⟨⟨rfl, rfl⟩, rfl⟩
  · obtain ⟨rfl, rfl⟩ := h
    refine mA_round off num cs ty hR n64 hJ hJ66 _ 0 [(0, 1)] (Nat.lt_succ_self _) (Nat.zero_le _) ⟨fun p hp => by rw [List.mem_singleton.1 hp], fun x => ?_⟩
    unfold getI
    simp only [lookI]
    by_cases e : x = 0
    · subst e; exact ⟨fun _ => ⟨0, Nat.zero_le _, rfl, rfl⟩, fun _ => by decide⟩
    · rw [if_neg (by omega)]
      exact ⟨fun h => absurd rfl h, fun ⟨b, _, h1, h2⟩ => by have : b = 0 := of_decide_eq_true h2; omega⟩
end
end Go.Proofs.Ytebkbihhnoellaa
/- Of flow: FlowTrims: its states. No condition. -/
namespace Go.Proofs.Ytebkbihhnoellaa
set_option linter.unusedVariables false
noncomputable def sl0 (i n : Nat) : SV := .s (.c (.f (.slice i (.l 0) (.o n) .any)))
noncomputable def ETr : Env := ⟨Try.prog, fnOf, conT, haltAt [5009]⟩
noncomputable def cT_d0 : List SIt := sekF Try.f5 9
noncomputable def cT_F (off : Nat) (num : Nat) (cs : Array Value) (ty : TypeId) (a : Int) (b : Int) (i : Int) (n : Nat) (k : Nat) (j : Nat) (rs : Array Value) (gs : Array Value) (ws : Array Value) : List SFr := [frOf 5 Try.f5 [(0, prS off num), (1, i64 (.o a)), (2, i64 (.o b)), (7, sl0 1 n), (10, sl0 2 k), (11, sl0 3 j), (12, i64 (.o i))] cT_d0]
noncomputable def cT_M (off : Nat) (num : Nat) (cs : Array Value) (ty : TypeId) (a : Int) (b : Int) (i : Int) (n : Nat) (k : Nat) (j : Nat) (rs : Array Value) (gs : Array Value) (ws : Array Value) : SMem := mkM 4 [(0, ⟨.raw cs, ty, false⟩), (1, ⟨.pop rs, 46, true⟩), (2, ⟨.pop gs, 46, true⟩), (3, ⟨.pop ws, 46, true⟩)]
noncomputable def cT_n (off : Nat) (num : Nat) (cs : Array Value) (ty : TypeId) (a : Int) (b : Int) (Q : Int → Nat → Nat → Nat → Array Value → Array Value → Array Value → Prop) (fs : List SFr) (m : SMem) : Prop := (match frNth fs 0 with | some f0 => (match rdI f0 12 with | some i => (match rdSI f0 7 with | some p1 => (match rdSN f0 7 with | some n => (match rdSI f0 10 with | some p2 => (match rdSN f0 10 with | some k => (match rdSI f0 11 with | some p3 => (match rdSN f0 11 with | some j => (match rdA m p1 with | some rs => (match rdA m p2 with | some gs => (match rdA m p3 with | some ws => Q i n k j rs gs ws ∧ subOk 1 [(1, p1), (2, p2), (3, p3)] (cT_F off num cs ty a b i n k j rs gs ws) (cT_M off num cs ty a b i n k j rs gs ws) fs m | none => False) | none => False) | none => False) | none => False) | none => False) | none => False) | none => False) | none => False) | none => False) | none => False) | none => False)
noncomputable def sR5_t (off : Nat) (num : Nat) (cs : Array Value) (ty : TypeId) (a : Int) (b : Int) : Tree := run ETr 8000 1 [callFr 5 Try.f5.ntmps [prS off num, i64 (.o a), i64 (.o b)] (Try.f5.body.getD .skip)] (rawM cs ty)
noncomputable def sR5_x (off : Nat) (num : Nat) (cs : Array Value) (ty : TypeId) (a : Int) (b : Int) (QcT : Int → Nat → Nat → Nat → Array Value → Array Value → Array Value → Prop) (fs : List SFr) (m : SMem) : Prop := cT_n off num cs ty a b QcT fs m
noncomputable def jC5_t (off : Nat) (num : Nat) (cs : Array Value) (ty : TypeId) (a : Int) (b : Int) (i : Int) (n : Nat) (k : Nat) (j : Nat) (rs : Array Value) (gs : Array Value) (ws : Array Value) : Tree := stepT ETr.go (run ETr 1000) 1 (cT_F off num cs ty a b i n k j rs gs ws) (cT_M off num cs ty a b i n k j rs gs ws)
noncomputable def jC5_x (off : Nat) (num : Nat) (cs : Array Value) (ty : TypeId) (a : Int) (b : Int) (i : Int) (n : Nat) (k : Nat) (j : Nat) (rs : Array Value) (gs : Array Value) (ws : Array Value) (QcT : Int → Nat → Nat → Nat → Array Value → Array Value → Array Value → Prop) (fs : List SFr) (m : SMem) : Prop := cT_n off num cs ty a b QcT fs m
theorem cT_d0_ok (r : Nat → Option Nat) : TodoOk r cT_d0 cT_d0 := TodoOk.it (by kernel_rfl)
theorem cT_good {A : SV → SMem → Prop} {off : Nat} {num : Nat} {cs : Array Value} {ty : TypeId} {a : Int} {b : Int} {Q : Int → Nat → Nat → Nat → Array Value → Array Value → Array Value → Prop} {fs : List SFr} {m : SMem} (H : ∀ i n k j rs gs ws, Q i n k j rs gs ws → Good Try.prog A 1 (cT_F off num cs ty a b i n k j rs gs ws) (cT_M off num cs ty a b i n k j rs gs ws)) (hb : cT_n off num cs ty a b Q fs m) : Good Try.prog A 1 fs m := by
  unfold cT_n at hb
  split at hb
  rotate_left
  · exact hb.elim
  split at hb
  rotate_left
  · exact hb.elim
  split at hb
  rotate_left
  · exact hb.elim
  split at hb
  rotate_left
  · exact hb.elim
  split at hb
  rotate_left
  · exact hb.elim
  split at hb
  rotate_left
  · exact hb.elim
  split at hb
  rotate_left
  · exact hb.elim
  split at hb
  rotate_left
  · exact hb.elim
  split at hb
  rotate_left
  · exact hb.elim
  split at hb
  rotate_left
  · exact hb.elim
  split at hb
  rotate_left
  · exact hb.elim
  exact Good.of_sub hb.2 (H _ _ _ _ _ _ _ hb.1)
theorem sR5_go {A : SV → SMem → Prop} {off : Nat} {num : Nat} {cs : Array Value} {ty : TypeId} {a : Int} {b : Int} {QcT : Int → Nat → Nat → Nat → Array Value → Array Value → Array Value → Prop} {fs : List SFr} {m : SMem} (hcT : ∀ i' n' k' j' rs' gs' ws', QcT i' n' k' j' rs' gs' ws' → Good Try.prog A 1 (cT_F off num cs ty a b i' n' k' j' rs' gs' ws') (cT_M off num cs ty a b i' n' k' j' rs' gs' ws')) (hb : sR5_x off num cs ty a b QcT fs m) : Good Try.prog A 1 fs m := by
  unfold sR5_x at hb
  exact cT_good hcT hb
theorem jC5_go {A : SV → SMem → Prop} {off : Nat} {num : Nat} {cs : Array Value} {ty : TypeId} {a : Int} {b : Int} {i : Int} {n : Nat} {k : Nat} {j : Nat} {rs : Array Value} {gs : Array Value} {ws : Array Value} {QcT : Int → Nat → Nat → Nat → Array Value → Array Value → Array Value → Prop} {fs : List SFr} {m : SMem} (hcT : ∀ i' n' k' j' rs' gs' ws', QcT i' n' k' j' rs' gs' ws' → Good Try.prog A 1 (cT_F off num cs ty a b i' n' k' j' rs' gs' ws') (cT_M off num cs ty a b i' n' k' j' rs' gs' ws')) (hb : jC5_x off num cs ty a b i n k j rs gs ws QcT fs m) : Good Try.prog A 1 fs m := by
  unfold jC5_x at hb
  exact cT_good hcT hb
end Go.Proofs.Ytebkbihhnoellaa
/- Of flow: FlowTrims: its states. -/
namespace Go.Proofs.Ytebkbihhnoellaa
set_option maxRecDepth 100000
theorem sR5_vc (off : Nat) (num : Nat) (cs : Array Value) (ty : TypeId) (a : Int) (b : Int) (QcT : Int → Nat → Nat → Nat → Array Value → Array Value → Array Value → Prop) : (sR5_t off num cs ty a b).vc ((boolR true)) (sR5_x off num cs ty a b QcT) =
    ((InsOk cs off num ∧ num ≠ (0 : Nat) ∧ num ≤ (1048576 : Nat) ∧ True) ∧ ((decide ((↑num : Int) > (200 : Int)) == false) = true → (RowOk (ofRow cs off num) (0 : Nat) num ∧ True) ∧ ((!mayV (ofRow cs off num) (0 : Nat) num) = true → true = true) ∧ ((!mayV (ofRow cs off num) (0 : Nat) num) = false → (InsOk cs off num ∧ mayV cs off num = true ∧ num ≠ (0 : Nat) ∧ True) ∧ (InsOk (trR cs off num) (0 : Nat) (cnt (metB cs off num) num) ∧ cnt (metB cs off num) num ≠ (0 : Nat) ∧ cnt (metB cs off num) num ≤ (1048576 : Nat) ∧ True) ∧ (RowOk (ofRow cs off num) (0 : Nat) num ∧ mayV (ofRow cs off num) (0 : Nat) num = true ∧ num ≠ (0 : Nat) ∧ True) ∧ (((↑(cnt (metB cs off num) num) : Int) != (↑(cnt (rchB (ofRow cs off num) (0 : Nat) num) num) : Int)) = true → false = true) ∧ (((↑(cnt (metB cs off num) num) : Int) != (↑(cnt (rchB (ofRow cs off num) (0 : Nat) num) num) : Int)) = false → QcT (0 : Int) num (cnt (metB cs off num) num) (cnt (rchB (ofRow cs off num) (0 : Nat) num) num) (ofRow cs off num) (ofRow (trR cs off num) (0 : Nat) (cnt (metB cs off num) num)) (twR (ofRow cs off num) (0 : Nat) num) ∧ CallKind.normal = CallKind.normal ∧ TodoOk (ren 1 [(1, 1), (2, 3), (3, 4)]) cT_d0 cT_d0 ∧ off = off ∧ num = num ∧ a = a ∧ num = num ∧ cnt (rchB (ofRow cs off num) (0 : Nat) num) num = cnt (rchB (ofRow cs off num) (0 : Nat) num) num ∧ b = b ∧ (0 : Int) = (0 : Int) ∧ cnt (metB cs off num) num = cnt (metB cs off num) num ∧ ty = ty ∧ cs = cs ∧ (46 : TypeId) = (46 : TypeId) ∧ ofRow cs off num = ofRow cs off num ∧ (46 : TypeId) = (46 : TypeId) ∧ twR (ofRow cs off num) (0 : Nat) num = twR (ofRow cs off num) (0 : Nat) num ∧ (46 : TypeId) = (46 : TypeId) ∧ ofRow (trR cs off num) (0 : Nat) (cnt (metB cs off num) num) = ofRow (trR cs off num) (0 : Nat) (cnt (metB cs off num) num) ∧ True))) ∧ ((decide ((↑num : Int) > (200 : Int)) == false) = false → true = true)) := by kernel_rfl
theorem jC5_vc (off : Nat) (num : Nat) (cs : Array Value) (ty : TypeId) (a : Int) (b : Int) (i : Int) (n : Nat) (k : Nat) (j : Nat) (rs : Array Value) (gs : Array Value) (ws : Array Value) (QcT : Int → Nat → Nat → Nat → Array Value → Array Value → Array Value → Prop) : (jC5_t off num cs ty a b i n k j rs gs ws).vc ((boolR true)) (jC5_x off num cs ty a b i n k j rs gs ws QcT) =
    ((decide (i < (↑k : Int)) = true → (((0 : Int) ≤ i ∧ i < (↑k : Int)) ∧ True) ∧ (IsInt IntKind.i64 gs ((0 : Nat) + Int.toNat i * 5) ∧ IsInt IntKind.i64 gs ((0 : Nat) + Int.toNat i * 5 + 1) ∧ IsInt IntKind.i64 gs ((0 : Nat) + Int.toNat i * 5 + 2) ∧ IsInt IntKind.i64 gs ((0 : Nat) + Int.toNat i * 5 + 3) ∧ IsInt IntKind.i64 gs ((0 : Nat) + Int.toNat i * 5 + 4) ∧ True) ∧ (((0 : Int) ≤ i ∧ i < (↑j : Int)) ∧ True) ∧ (IsInt IntKind.i64 ws ((0 : Nat) + Int.toNat i * 5) ∧ IsInt IntKind.i64 ws ((0 : Nat) + Int.toNat i * 5 + 1) ∧ IsInt IntKind.i64 ws ((0 : Nat) + Int.toNat i * 5 + 2) ∧ IsInt IntKind.i64 ws ((0 : Nat) + Int.toNat i * 5 + 3) ∧ IsInt IntKind.i64 ws ((0 : Nat) + Int.toNat i * 5 + 4) ∧ True) ∧ ((!(intAt gs ((0 : Nat) + Int.toNat i * 5) == intAt ws ((0 : Nat) + Int.toNat i * 5) && (intAt gs ((0 : Nat) + Int.toNat i * 5 + 1) == intAt ws ((0 : Nat) + Int.toNat i * 5 + 1) && (intAt gs ((0 : Nat) + Int.toNat i * 5 + 2) == intAt ws ((0 : Nat) + Int.toNat i * 5 + 2) && (intAt gs ((0 : Nat) + Int.toNat i * 5 + 3) == intAt ws ((0 : Nat) + Int.toNat i * 5 + 3) && intAt gs ((0 : Nat) + Int.toNat i * 5 + 4) == intAt ws ((0 : Nat) + Int.toNat i * 5 + 4)))))) = true → false = true) ∧ ((!(intAt gs ((0 : Nat) + Int.toNat i * 5) == intAt ws ((0 : Nat) + Int.toNat i * 5) && (intAt gs ((0 : Nat) + Int.toNat i * 5 + 1) == intAt ws ((0 : Nat) + Int.toNat i * 5 + 1) && (intAt gs ((0 : Nat) + Int.toNat i * 5 + 2) == intAt ws ((0 : Nat) + Int.toNat i * 5 + 2) && (intAt gs ((0 : Nat) + Int.toNat i * 5 + 3) == intAt ws ((0 : Nat) + Int.toNat i * 5 + 3) && intAt gs ((0 : Nat) + Int.toNat i * 5 + 4) == intAt ws ((0 : Nat) + Int.toNat i * 5 + 4)))))) = false → QcT (ari BinOp.add IntKind.i64 i (1 : Int)) n k j rs gs ws ∧ CallKind.normal = CallKind.normal ∧ TodoOk (ren 1 [(1, 1), (2, 2), (3, 3)]) cT_d0 cT_d0 ∧ off = off ∧ num = num ∧ a = a ∧ n = n ∧ j = j ∧ b = b ∧ ari BinOp.add IntKind.i64 i (1 : Int) = ari BinOp.add IntKind.i64 i (1 : Int) ∧ k = k ∧ ty = ty ∧ cs = cs ∧ (46 : TypeId) = (46 : TypeId) ∧ rs = rs ∧ (46 : TypeId) = (46 : TypeId) ∧ ws = ws ∧ (46 : TypeId) = (46 : TypeId) ∧ gs = gs ∧ True)) ∧ (decide (i < (↑k : Int)) = false → (InsOk cs off num ∧ mayV cs off num = true ∧ True) ∧ (RowOk rs (0 : Nat) n ∧ n ≤ (64 : Nat) ∧ True) ∧ (((rlB cs off num a b == rrB rs (0 : Nat) n a b) == true) = true → true = true) ∧ (((rlB cs off num a b == rrB rs (0 : Nat) n a b) == true) = false → false = true))) := by kernel_rfl
end Go.Proofs.Ytebkbihhnoellaa
/- Of flow: FlowTrims of a row that is not empty: its run. No condition. -/
namespace Go.Proofs.Ytebkbihhnoellaa
set_option linter.unusedSectionVars false
set_option maxRecDepth 100000
theorem ETr_ok : EnvOk ETr := EnvOk.with E0_ok _ _ conT_ok
section
variable {off num : Nat} {cs : Array Value} (hI : InsOk cs off num) (hM : mayV cs off num = true)
include hI hM
theorem met_row {i : Nat} (hi : i ≤ num) : metB cs off num i = rchB (ofRow cs off num) 0 num i := met_rch hI hM (of_row hI).2 hi
theorem cnt_row {i : Nat} (hi : i ≤ num) : cnt (metB cs off num) i = cnt (rchB (ofRow cs off num) 0 num) i := cnt_congr fun j hj => met_row hI hM (by omega)
theorem tr_at {i : Nat} (hi : i < num) (hf : metB cs off num i = true) : InsAt (trR cs off num) (0 + cnt (metB cs off num) i * 5) ∧ ins (trR cs off num) 0 (cnt (metB cs off num) i) = trimI (metB cs off num) (ins cs off i) := by
  have key : ∀ t, t < 5 → (trR cs off num)[cnt (metB cs off num) i * 5 + t]? = (fiveI (trimI (metB cs off num) (ins cs off i)))[t]? := fun t ht => by
    unfold trR
    rw [List.getElem?_toArray]
    exact grow_at (g := fun j => fiveI (trimI (metB cs off num) (ins cs off j))) (fun _ => rfl) hf ht hi
  generalize trimI (metB cs off num) (ins cs off i) = x at *
  have c0 := key 0 (by omega)
  have c1 := key 1 (by omega)
  have c2 := key 2 (by omega)
  have c3 := key 3 (by omega)
  have c4 := key 4 (by omega)
  unfold ins
  rw [Nat.zero_add]
  exact ⟨⟨isI_of c0, isI_of c1, isI_of c2, isI_of c3, isI_of c4⟩, Ins.ext' (intAt_of c0) (intAt_of c1) (intAt_of c2) (intAt_of c3) (intAt_of c4)⟩
theorem tr_ok : InsOk (trR cs off num) 0 (cnt (metB cs off num) num) := by
  have n64 := (mayV_iff.1 hM).1
  have hc := cnt_le (metB cs off num) num
  refine ⟨by omega, fun j hj => ?_⟩
  obtain ⟨i, hi, hf, rfl⟩ := cnt_sur hj
  obtain ⟨h1, h2⟩ := tr_at hI hM hi hf
  exact ⟨h1, by rw [h2]; exact trimI_in (hI.2 i hi).2⟩
theorem trim_row {i : Nat} (hi : i < num) : trimI (metB cs off num) (ins cs off i) = trimI (rchB (ofRow cs off num) 0 num) (ins (ofRow cs off num) 0 i) := by
  rw [(of_row hI).2 i hi]
  obtain ⟨_, _, _, _, k5⟩ := Ins.okN_iff.1 ((mayV_iff.1 hM).2 i hi)
  unfold trimI
  split
  · rw [cnt_row hI hM (show (ins cs off i).n.toNat ≤ num by omega)]
  · rfl
theorem tw_at {i : Nat} (hi : i < num) (hf : metB cs off num i = true) : (IsInt .i64 (twR (ofRow cs off num) 0 num) (0 + cnt (metB cs off num) i * 5) ∧ IsInt .i64 (twR (ofRow cs off num) 0 num) (0 + cnt (metB cs off num) i * 5 + 1) ∧ IsInt .i64 (twR (ofRow cs off num) 0 num) (0 + cnt (metB cs off num) i * 5 + 2) ∧ IsInt .i64 (twR (ofRow cs off num) 0 num) (0 + cnt (metB cs off num) i * 5 + 3) ∧ IsInt .i64 (twR (ofRow cs off num) 0 num) (0 + cnt (metB cs off num) i * 5 + 4)) ∧
    ins (twR (ofRow cs off num) 0 num) 0 (cnt (metB cs off num) i) = trimI (metB cs off num) (ins cs off i) := by
  have hf' : rchB (ofRow cs off num) 0 num i = true := by rw [← met_row hI hM (by omega)]; exact hf
  have key : ∀ t, t < 5 → (twR (ofRow cs off num) 0 num)[cnt (metB cs off num) i * 5 + t]? = (fiveJ (trimI (metB cs off num) (ins cs off i)))[t]? := fun t ht => by
    unfold twR
    rw [List.getElem?_toArray, trim_row hI hM hi, cnt_row hI hM (by omega)]
    exact grow_at (g := gW (ofRow cs off num) 0 num) (fun _ => rfl) hf' ht hi
  generalize trimI (metB cs off num) (ins cs off i) = x at *
  have c0 := key 0 (by omega)
  have c1 := key 1 (by omega)
  have c2 := key 2 (by omega)
  have c3 := key 3 (by omega)
  have c4 := key 4 (by omega)
  unfold ins
  rw [Nat.zero_add]
  exact ⟨⟨isI_of c0, isI_of c1, isI_of c2, isI_of c3, isI_of c4⟩, Ins.ext' (intAt_of c0) (intAt_of c1) (intAt_of c2) (intAt_of c3) (intAt_of c4)⟩
end
theorem mayv_row {cs : Array Value} {off num : Nat} (hI : InsOk cs off num) : mayV (ofRow cs off num) 0 num = mayV cs off num := by
  obtain ⟨_, h⟩ := of_row hI
  rw [Bool.eq_iff_iff, mayV_iff, mayV_iff]
  exact ⟨fun ⟨a, b⟩ => ⟨a, fun i hi => by rw [← h i hi]; exact b i hi⟩, fun ⟨a, b⟩ => ⟨a, fun i hi => by rw [h i hi]; exact b i hi⟩⟩
theorem ins_eq {cs ds : Array Value} {a b i j : Nat} (h : ins cs a i = ins ds b j) : intAt cs (a + i * 5) = intAt ds (b + j * 5) ∧ intAt cs (a + i * 5 + 1) = intAt ds (b + j * 5 + 1) ∧ intAt cs (a + i * 5 + 2) = intAt ds (b + j * 5 + 2) ∧ intAt cs (a + i * 5 + 3) = intAt ds (b + j * 5 + 3) ∧ intAt cs (a + i * 5 + 4) = intAt ds (b + j * 5 + 4) := by
  unfold ins at h
  injection h with h1 h2 h3 h4 h5
  exact ⟨h1, h2, h3, h4, h5⟩
noncomputable def trC (off num : Nat) (a b : Int) : List SFr := [callFr 5 Try.f5.ntmps [prS off num, i64 (.o a), i64 (.o b)] (Try.f5.body.getD .skip)]
section
variable (off num : Nat) (cs : Array Value) (ty : TypeId) (a b : Int) (hI : InsOk cs off num) (h0 : num ≠ 0)
include hI h0
theorem cT_round (hM : mayV cs off num = true) : ∀ (K i : Nat), cnt (metB cs off num) num - i < K → i ≤ cnt (metB cs off num) num → Good Try.prog (boolR true) 1 (cT_F off num cs ty a b i num (cnt (metB cs off num) num) (cnt (metB cs off num) num) (ofRow cs off num) (ofRow (trR cs off num) 0 (cnt (metB cs off num) num)) (twR (ofRow cs off num) 0 num)) (cT_M off num cs ty a b i num (cnt (metB cs off num) num) (cnt (metB cs off num) num) (ofRow cs off num) (ofRow (trR cs off num) 0 (cnt (metB cs off num) num)) (twR (ofRow cs off num) 0 num)) := by
  have n64 := (mayV_iff.1 hM).1
  have hc := cnt_le (metB cs off num) num
  obtain ⟨hR, hr2⟩ := of_row hI
  obtain ⟨hG, hg2⟩ := of_row (tr_ok hI hM)
  intro K
  induction K with
  | zero => intro i h; omega
  | succ K ih =>
    intro i hK hi
    refine past_vc ETr_ok 1000 (jC5_vc off num cs ty a b i num (cnt (metB cs off num) num) (cnt (metB cs off num) num) (ofRow cs off num) (ofRow (trR cs off num) 0 (cnt (metB cs off num) num)) (twR (ofRow cs off num) 0 num)
      (fun i' n' k' j' rs' gs' ws' => i' = (i + 1 : Nat) ∧ n' = num ∧ k' = cnt (metB cs off num) num ∧ j' = cnt (metB cs off num) num ∧ rs' = ofRow cs off num ∧ gs' = ofRow (trR cs off num) 0 (cnt (metB cs off num) num) ∧ ws' = twR (ofRow cs off num) 0 num ∧ i < cnt (metB cs off num) num)) ?_ (fun _ _ h => h)
      (fun fs m hb => jC5_go (fun i' n' k' j' rs' gs' ws' h => ?_) hb)
    · rw [i64_add1 (show i < 1000 by omega), Int.toNat_natCast]
      by_cases d : i < cnt (metB cs off num) num
      · have e1 : decide ((i : Int) < ((cnt (metB cs off num) num : Nat) : Int)) = true := decide_eq_true (by omega)
        have w1 : (0 : Int) ≤ (i : Int) ∧ (i : Int) < ((cnt (metB cs off num) num : Nat) : Int) := by omega
        obtain ⟨g1, g2, g3, g4, g5⟩ := hG.2 i d
        have hgi := hg2 i d
        obtain ⟨p, hp, hf, rfl⟩ := cnt_sur d
        obtain ⟨⟨u1, u2, u3, u4, u5⟩, hw⟩ := tw_at hI hM hp hf
        have htr := (tr_at hI hM hp hf).2
        obtain ⟨q1, q2, q3, q4, q5⟩ := ins_eq (hgi.trans (htr.trans hw.symm))
        rw [q1, q2, q3, q4, q5]
        simp only [e1, decide_true, w1, d, g1, g2, g3, g4, g5, u1, u2, u3, u4, u5, beq_self_eq_true, Bool.and_true, Bool.not_true, Bool.not_false, Bool.true_eq_false, Bool.false_eq_true, false_implies, true_implies, true_and, and_true, cT_d0_ok]
      · have e1 : decide ((i : Int) < ((cnt (metB cs off num) num : Nat) : Int)) = false := decide_eq_false (by omega)
        have hrr := rl_rr hI hM hr2 a b
        simp only [e1, hI, hM, hR, n64, hrr, beq_self_eq_true, Bool.true_eq_false, Bool.false_eq_true, false_implies, true_implies, true_and, and_true]
    · obtain ⟨rfl, rfl, rfl, rfl, rfl, rfl, rfl, h⟩ := h
      exact ih (i + 1) (by omega) (by omega)
theorem trims_good (hn : num ≤ 1048576) : Good Try.prog (boolR true) 1 (trC off num a b) (rawM cs ty) := by
  obtain ⟨hR, hr2⟩ := of_row hI
  have hmo := mayv_row hI
  refine run_vc ETr_ok 8000 (sR5_vc off num cs ty a b
    (fun i' n' k' j' rs' gs' ws' => i' = (0 : Nat) ∧ n' = num ∧ k' = cnt (metB cs off num) num ∧ j' = cnt (metB cs off num) num ∧ rs' = ofRow cs off num ∧ gs' = ofRow (trR cs off num) 0 (cnt (metB cs off num) num) ∧ ws' = twR (ofRow cs off num) 0 num ∧ mayV cs off num = true)) ?_ (fun _ _ h => h)
    (fun fs m hb => sR5_go (fun i' n' k' j' rs' gs' ws' h => ?_) hb)
  · refine ⟨⟨hI, h0, hn, trivial⟩, fun h2 => ⟨⟨hR, trivial⟩, fun _ => rfl, fun hm => ?_⟩, fun _ => rfl⟩
    have hM : mayV cs off num = true := by rw [← hmo]; simpa using hm
    have n64 := (mayV_iff.1 hM).1
    have hc := cnt_le (metB cs off num) num
    have hp := cnt_lt (met0 off num cs hI hM h0) (show 0 < num by omega)
    rw [← cnt_row hI hM (Nat.le_refl _)]
    have hne : ((((cnt (metB cs off num) num : Nat) : Int)) != ((cnt (metB cs off num) num : Nat) : Int)) = false := by simp
    rw [hmo]
    simp only [hne, hI, hM, hR, h0, tr_ok hI hM, Bool.true_eq_false, Bool.false_eq_true, false_implies, true_implies, true_and, and_true, ne_eq, not_false_eq_true, cT_d0_ok]
    refine ⟨⟨?_, ?_⟩, rfl⟩ <;> omega
  · obtain ⟨rfl, rfl, rfl, rfl, rfl, rfl, rfl, hM⟩ := h
    exact cT_round off _ cs ty a b hI h0 hM _ 0 (Nat.lt_succ_self _) (Nat.zero_le _)
end
end Go.Proofs.Ytebkbihhnoellaa
/- Of flow: the longest way, and how many steps there are. No condition. -/
namespace Go.Proofs.Ytebkbihhnoellaa
set_option linter.unusedSectionVars false
set_option maxRecDepth 100000
/-- So many steps lead from a place to another one. -/
def Wk (nx : Nat → List Nat) (n : Nat) : Nat → Nat → Nat → Prop
  | 0, i, c => i = c
  | j + 1, i, c => i < n ∧ ∃ b ∈ nx i, Wk nx n j b c
theorem Wk.snoc {nx : Nat → List Nat} {n : Nat} : ∀ {j i c : Nat}, Wk nx n (j + 1) i c ↔ ∃ a, a < n ∧ Wk nx n j i a ∧ c ∈ nx a
  | 0, i, c => ⟨fun ⟨h, b, hb, e⟩ => ⟨i, h, rfl, by have e : b = c := e; rw [← e]; exact hb⟩, fun ⟨a, h, e, hc⟩ => by have e : i = a := e; subst e; exact ⟨h, c, hc, rfl⟩⟩
  | j + 1, i, c => by
    constructor
    · rintro ⟨h, b, hb, h2⟩
      obtain ⟨a, ha, h3, hc⟩ := Wk.snoc.1 h2
      exact ⟨a, ha, ⟨h, b, hb, h3⟩, hc⟩
    · rintro ⟨a, ha, ⟨h, b, hb, h3⟩, hc⟩
      exact ⟨h, b, hb, Wk.snoc.2 ⟨a, ha, h3, hc⟩⟩
theorem hgt_wk {nx : Nat → List Nat} {n : Nat} : ∀ {k j i : Nat}, j < k → (j < hgt nx n k i ↔ ∃ c, c < n ∧ Wk nx n j i c)
  | 0, _, _, h => absurd h (Nat.not_lt_zero _)
  | k + 1, j, i, h => by
    rw [hgt_succ]
    split
    · rename_i hi
      refine ⟨fun h => absurd h (Nat.not_lt_zero _), fun ⟨c, hc, hw⟩ => ?_⟩
      cases j with
      | zero => have hw : i = c := hw; omega
      | succ j => exact absurd hw.1 (by omega)
    · rename_i hi
      cases j with
      | zero => exact ⟨fun _ => ⟨i, by omega, rfl⟩, fun _ => by omega⟩
      | succ j =>
        have ih : ∀ b, j < hgt nx n k b ↔ ∃ c, c < n ∧ Wk nx n j b c := fun b => hgt_wk (by omega)
        constructor
        · intro hlt
          obtain ⟨b, hb, he⟩ := mxL_ex (f := hgt nx n k) (l := nx i) (by omega)
          obtain ⟨c, hc, hw⟩ := (ih b).1 (by omega)
          exact ⟨c, hc, by omega, b, hb, hw⟩
        · rintro ⟨c, hc, _, b, hb, hw⟩
          have h1 := (ih b).2 ⟨c, hc, hw⟩
          have h2 := mxL_ge (f := hgt nx n k) hb
          omega
section
variable {off n : Nat} {cs : Array Value} (hI : InsOk cs off n) (hM : mayV cs off n = true)
include hI hM
theorem lay_wk : ∀ {j b : Nat}, lay (edN (ofRow cs off n) 0 n) n j b = true ↔ Wk (toL cs off n) n j 0 b
  | 0, b => by
    show decide (b = 0) = true ↔ 0 = b
    rw [decide_eq_true_eq]; exact eq_comm
  | j + 1, b => by
    rw [Wk.snoc]
    show anyB _ n = true ↔ _
    rw [anyB_iff]
    refine exists_congr fun a => and_congr_right fun ha => ?_
    rw [Bool.and_eq_true, lay_wk (j := j)]
    refine and_congr_right fun _ => ?_
    obtain ⟨_, h⟩ := of_row hI
    unfold edN
    rw [edB_toL (fun i hi => by rw [h i hi]; exact (hI.2 i hi).2.2.2.2.2.1)]
    have e2 : toL (ofRow cs off n) 0 n a = toL cs off n a := by
      have hh := h a ha
      unfold toL; rw [hh]
    rw [e2]
theorem lay_long (hN : NoLoop cs off n) : LayN (edN (ofRow cs off n) 0 n) n (hgt (toL cs off n) n 66 0) := by
  have hm : metB cs off n 0 = true := (met_iff hI hM).2 (.refl (by decide))
  have hr := rnk_le hI hM 0
  have e := hgt_stab hI hM hN 66 0 (Nat.zero_le _) hm (by omega)
  have hle := hgt_le (nx := toL cs off n) (n := n) 66 0
  have key : ∀ j, j < 67 → (anyB (lay (edN (ofRow cs off n) 0 n) n j) n = true ↔ j < hgt (toL cs off n) n 66 0) := fun j hj => by
    rw [← e, hgt_wk hj, anyB_iff]
    exact exists_congr fun c => and_congr_right fun hc => lay_wk hI hM
  refine ⟨fun j hj => (key j (by omega)).2 hj, ?_⟩
  cases h : anyB (lay (edN (ofRow cs off n) 0 n) n (hgt (toL cs off n) n 66 0)) n with
  | false => rfl
  | true => exact absurd ((key _ (by omega)).1 h) (Nat.lt_irrefl _)
end
end Go.Proofs.Ytebkbihhnoellaa
/- Of flow: Longest: its environment. No condition. -/
namespace Go.Proofs.Ytebkbihhnoellaa
set_option linter.unusedSectionVars false
set_option maxRecDepth 100000
noncomputable section
def hasT (m : SMem) : List SV → Option Tree
  | [.s (.c (.f (.slice i (.l 0) n _))), .s (.c (.f (.bool (.l true))))] => match rowR m i with
    | some rs => some (needs [BoOk rs n.den] (.ret (sB (.o (anyR rs n.den))) m))
    | none => none
  | _ => none
def conJ (g : FuncId) (l : List SV) (m : SMem) : Option Tree := match g, l with
  | 33, l => hasT m l
  | 34, l => conLg (lgK 66) lgH (lgP 66) 34 l m
  | 15, l => conE 15 l m
  | _, _ => none
def EJ : Env := ⟨Try.prog, fnOf, conJ, fun _ _ _ => false⟩
def pairR (v e : Int) (s : SV) (_ : SMem) : Prop := match s with
  | .tup [.c (.f (.int .i64 x)), .c (.f (.int .i64 y))] => x.den = v ∧ y.den = e
  | _ => False
end
theorem fn33 : E0.fn 33 = some Try.f33 := by kernel_rfl
theorem body33 : Try.f33.body = some (Try.f33.body.getD .skip) := by kernel_rfl
theorem hasT_ok {m : SMem} {l : List SV} {t : Tree} (h : hasT m l = some t) : Con E0 33 l m t := by
  unfold hasT at h
  split at h
  case h_2 => cases h
  rename_i i n c1
  split at h
  case h_2 => cases h
  rename_i rs e1
  cases h
  obtain ⟨ta, wa, ha⟩ := rowR_of e1
  refine Con.ro E0_ok (q := [BoOk rs n.den]) (l' := [roS 0 n.den, sB (.l true)]) (ms := mkM 1 [(0, ⟨.pop rs, ta, false⟩)]) (A := boolR (anyR rs n.den)) fn33 body33 rfl (fun _ => i) ?_ ?_ (fun hq => contains_good n.den rs ta (hq _ (List.mem_singleton.2 rfl))) (fun s m' R R' v h hv => bool_ok (R := R) h hv)
  · intro j b hj
    have hj : j = 0 ∧ b = ⟨.pop rs, ta, false⟩ := prM_get (v := false) hj
    obtain ⟨rfl, rfl⟩ := hj
    exact ⟨Nat.zero_lt_one, rfl, _, ha, rfl, fun R cs' h => h⟩
  · intro R vs hv
    match vs, hv with
    | [x, y], hv =>
      obtain ⟨⟨gl, cp, f1, f2, f3, f4⟩, k1, _⟩ := hv
      exact ⟨⟨gl, cp, by unfold pull; exact f1, f2, trivial, f4⟩, k1, trivial⟩
theorem conJ_ok (g : FuncId) (l : List SV) (m : SMem) (t : Tree) (h : conJ g l m = some t) : Con E0 g l m t := by
  unfold conJ at h
  split at h
  · exact hasT_ok h
  · exact lg_con fn34 body34 (fun cs ty off n a ws hP => lg_step 65 (ELg_ok 65) cs ty off n a ws hP) h
  · exact conE_ok _ _ _ _ h
  · cases h
theorem EJ_ok : EnvOk EJ := EnvOk.with E0_ok _ _ conJ_ok
end Go.Proofs.Ytebkbihhnoellaa
/- Of flow: Longest. -/
namespace Go.Proofs.Ytebkbihhnoellaa
set_option maxRecDepth 100000
theorem lo_vc (off num : Nat) (cs : Array Value) (ty : TypeId) (v e : Int) : (run EJ 8000 1 [callFr 16 Try.f16.ntmps [prS off num] (Try.f16.body.getD .skip)] (rawM cs ty)).vc (pairR v e) (fun _ _ => False) =
    ((InsOk cs off num ∧ True) ∧ (mayV cs off num = true → (BoOk (boL (cycB cs off num) (num + 1)) (num + 1) ∧ True) ∧ (anyR (boL (cycB cs off num) (num + 1)) (num + 1) = true → (0 : Int) = v ∧ (12 : Int) = e) ∧ (anyR (boL (cycB cs off num) (num + 1)) (num + 1) = false → (lgP (66 : Nat) cs off num (0 : Int) #[Value.int IntKind.i64 (0 : Int), Value.int IntKind.i64 (0 : Int), Value.int IntKind.i64 (0 : Int), Value.int IntKind.i64 (0 : Int), Value.int IntKind.i64 (0 : Int), Value.int IntKind.i64 (0 : Int), Value.int IntKind.i64 (0 : Int), Value.int IntKind.i64 (0 : Int), Value.int IntKind.i64 (0 : Int), Value.int IntKind.i64 (0 : Int), Value.int IntKind.i64 (0 : Int), Value.int IntKind.i64 (0 : Int), Value.int IntKind.i64 (0 : Int), Value.int IntKind.i64 (0 : Int), Value.int IntKind.i64 (0 : Int), Value.int IntKind.i64 (0 : Int), Value.int IntKind.i64 (0 : Int), Value.int IntKind.i64 (0 : Int), Value.int IntKind.i64 (0 : Int), Value.int IntKind.i64 (0 : Int), Value.int IntKind.i64 (0 : Int), Value.int IntKind.i64 (0 : Int), Value.int IntKind.i64 (0 : Int), Value.int IntKind.i64 (0 : Int), Value.int IntKind.i64 (0 : Int), Value.int IntKind.i64 (0 : Int), Value.int IntKind.i64 (0 : Int), Value.int IntKind.i64 (0 : Int), Value.int IntKind.i64 (0 : Int), Value.int IntKind.i64 (0 : Int), Value.int IntKind.i64 (0 : Int), Value.int IntKind.i64 (0 : Int), Value.int IntKind.i64 (0 : Int), Value.int IntKind.i64 (0 : Int), Value.int IntKind.i64 (0 : Int), Value.int IntKind.i64 (0 : Int), Value.int IntKind.i64 (0 : Int), Value.int IntKind.i64 (0 : Int), Value.int IntKind.i64 (0 : Int), Value.int IntKind.i64 (0 : Int), Value.int IntKind.i64 (0 : Int), Value.int IntKind.i64 (0 : Int), Value.int IntKind.i64 (0 : Int), Value.int IntKind.i64 (0 : Int), Value.int IntKind.i64 (0 : Int), Value.int IntKind.i64 (0 : Int), Value.int IntKind.i64 (0 : Int), Value.int IntKind.i64 (0 : Int), Value.int IntKind.i64 (0 : Int), Value.int IntKind.i64 (0 : Int), Value.int IntKind.i64 (0 : Int), Value.int IntKind.i64 (0 : Int), Value.int IntKind.i64 (0 : Int), Value.int IntKind.i64 (0 : Int), Value.int IntKind.i64 (0 : Int), Value.int IntKind.i64 (0 : Int), Value.int IntKind.i64 (0 : Int), Value.int IntKind.i64 (0 : Int), Value.int IntKind.i64 (0 : Int), Value.int IntKind.i64 (0 : Int), Value.int IntKind.i64 (0 : Int), Value.int IntKind.i64 (0 : Int), Value.int IntKind.i64 (0 : Int), Value.int IntKind.i64 (0 : Int), Value.int IntKind.i64 (0 : Int)] ∧ True) ∧ lgH cs off num (0 : Int) = v ∧ (0 : Int) = e)) ∧ (mayV cs off num = false → (0 : Int) = v ∧ (3 : Int) = e)) := by kernel_rfl
end Go.Proofs.Ytebkbihhnoellaa
/- Of flow: Longest, as a contract; and the reference's. No condition. -/
namespace Go.Proofs.Ytebkbihhnoellaa
set_option linter.unusedSectionVars false
set_option maxRecDepth 100000
def lnV (cs : Array Value) (off num : Nat) : Int := if anyB (cycB cs off num) (num + 1) = true then 0 else (hgt (toL cs off num) num 66 0 : Nat)
def lnE (cs : Array Value) (off num : Nat) : Int := if anyB (cycB cs off num) (num + 1) = true then 12 else 0
theorem any_row (f : Nat → Bool) (n : Nat) (hn : n < 1000) : BoOk (boL f n) n ∧ anyR (boL f n) n = anyB f n :=
  ⟨⟨hn, fun i hi => (bo_at f hi).1⟩, anyB_congr fun i hi => (bo_at f hi).2⟩
theorem zero_ok (nx : Nat → List Nat) (n : Nat) {ws : Array Value} (h : ws.toList = List.replicate 65 (.int .i64 0)) : LgOk nx n ws := by
  have h2 : ∀ j, j < 65 → ws[j]? = some (.int .i64 0) := fun j hj => by rw [← Array.getElem?_toList, h, List.getElem?_replicate, if_pos hj]
  exact ⟨by rw [← Array.length_toList, h, List.length_replicate], fun j hj => ⟨isI_of (h2 j hj), .inl (intAt_of (h2 j hj))⟩⟩
theorem long_good (off num : Nat) (cs : Array Value) (ty : TypeId) (hI : InsOk cs off num) (hM : mayV cs off num = true) : Good Try.prog (pairR (lnV cs off num) (lnE cs off num)) 1 [callFr 16 Try.f16.ntmps [prS off num] (Try.f16.body.getD .skip)] (rawM cs ty) := by
  refine run_vc EJ_ok 8000 (lo_vc off num cs ty (lnV cs off num) (lnE cs off num)) ?_ (fun _ _ h => h) (fun _ _ h => h.elim)
  have n64 := (mayV_iff.1 hM).1
  obtain ⟨h1, h2⟩ := any_row (cycB cs off num) (num + 1) (by omega)
  rw [h2]
  unfold lnV lnE
  refine ⟨⟨hI, trivial⟩, fun _ => ⟨⟨h1, trivial⟩, fun h => ?_, fun h => ?_⟩, fun h => by rw [hM] at h; cases h⟩
  · rw [if_pos h, if_pos h]; exact ⟨rfl, rfl⟩
  · rw [if_neg (by rw [h]; decide), if_neg (by rw [h]; decide)]
    refine ⟨⟨⟨hI, hM, fun i hi => anyB_no.1 h i (by omega), zero_ok _ _ (by kernel_rfl), ⟨Int.le_refl _, by omega⟩, (met_iff hI hM).2 (.refl (by decide)), ?_⟩, trivial⟩, ?_, rfl⟩
    · have := rnk_le hI hM 0
      show rnk cs off num 0 < 66
      omega
    · rfl
noncomputable section
def lgT (m : SMem) : List SV → Option Tree
  | [.s (.c (.f (.slice i o n _)))] => match rawI m i with
    | some cs => some (needs [InsOk cs o.den n.den, mayV cs o.den n.den = true] (.ret (.tup [.c (.f (.int .i64 (.o (lnV cs o.den n.den)))), .c (.f (.int .i64 (.o (lnE cs o.den n.den))))]) m))
    | none => none
  | _ => none
def enT (m : SMem) : List SV → Option Tree
  | [.s (.c (.f (.slice i o n _)))] => match rowR m i with
    | some cs => some (needs [RowOk cs o.den n.den, n.den ≤ 64] (.ret (sB (.o (endB cs o.den n.den))) m))
    | none => none
  | _ => none
/-- The reference's longest way: the number of steps that still lead to an instruction. -/
def layJ (cs : Array Value) (off n : Nat) : Nat := hgt (toL cs off n) n 66 0
def loT (m : SMem) : List SV → Option Tree
  | [.s (.c (.f (.slice i o n _)))] => match rowR m i with
    | some cs => some (needs [RowOk cs o.den n.den, n.den ≤ 64, LayN (edN cs o.den n.den) n.den (layJ cs o.den n.den)] (.ret (i64 (.o (layJ cs o.den n.den : Nat))) m))
    | none => none
  | _ => none
def conW (g : FuncId) (l : List SV) (m : SMem) : Option Tree := match g, l with
  | 6, l => conA 6 l m
  | 7, [x] => ofT2 m x
  | 8, l => conA 8 l m
  | 13, l => likeT m l
  | 15, l => conE 15 l m
  | 16, l => lgT m l
  | 17, l => conD 17 l m
  | 18, l => enT m l
  | 19, l => loT m l
  | _, _ => none
def EWl : Env := ⟨Try.prog, fnOf, conW, fun _ _ _ => false⟩
end
theorem fn16l : E0.fn 16 = some Try.f16 := by kernel_rfl
theorem body16l : Try.f16.body = some (Try.f16.body.getD .skip) := by kernel_rfl
theorem fn18l : E0.fn 18 = some Try.f18 := by kernel_rfl
theorem body18l : Try.f18.body = some (Try.f18.body.getD .skip) := by kernel_rfl
theorem fn19l : E0.fn 19 = some Try.f19 := by kernel_rfl
theorem body19l : Try.f19.body = some (Try.f19.body.getD .skip) := by kernel_rfl
theorem pair_ok {a b : Int} {s : SV} {m' : SMem} {R R' : Ren} {v : Value} (h : pairR a b s m') (hv : s.ok R' v) : (SV.tup [.c (.f (.int .i64 (.o a))), .c (.f (.int .i64 (.o b)))]).ok R v := by
  unfold pairR at h
  split at h
  · obtain ⟨vs, rfl, hv⟩ := hv
    refine ⟨vs, rfl, ?_⟩
    revert hv
    generalize vs.toList = l
    intro hv
    match l, hv with
    | [x, y], ⟨h1, h2, _⟩ =>
      have h1 : x = .int .i64 _ := h1
      have h2 : y = .int .i64 _ := h2
      refine ⟨?_, ?_, trivial⟩
      · rw [h1, h.1]; rfl
      · rw [h2, h.2]; rfl
  · exact h.elim
theorem int_okR {a : Int} {s : SV} {m' : SMem} {R R' : Ren} {v : Value} (h : intR a s m') (hv : s.ok R' v) : (i64 (.o a)).ok R v := by
  unfold intR at h
  split at h
  · have hv : v = .int .i64 _ := hv
    rw [hv, h]; rfl
  · exact h.elim
theorem lgT_ok {m : SMem} {l : List SV} {t : Tree} (h : lgT m l = some t) : Con E0 16 l m t := by
  unfold lgT at h
  split at h
  · rename_i i o n cap
    split at h
    · rename_i cs e
      cases h
      exact Con.rawN fn16l body16l e (l := []) (l' := []) (A := pairR (lnV cs o.den n.den) (lnE cs o.den n.den)) nil_args (fun ty hq => long_good o.den n.den cs ty (hq _ (by simp)) (hq _ (by simp))) (fun s m' R R' v h hv => pair_ok (R := R) h hv)
    · cases h
  · cases h
theorem enT_ok {m : SMem} {l : List SV} {t : Tree} (h : enT m l = some t) : Con E0 18 l m t := by
  unfold enT at h
  split at h
  · rename_i i o n cap
    split at h
    · rename_i cs e
      cases h
      exact Con.popN fn18l body18l e (l := []) (l' := []) (A := boolR (endB cs o.den n.den)) nil_args (fun ty hq => ends_good o.den n.den cs ty (hq _ (by simp)) (hq _ (by simp))) (fun s m' R R' v h hv => bool_ok (R := R) h hv)
    · cases h
  · cases h
theorem loT_ok {m : SMem} {l : List SV} {t : Tree} (h : loT m l = some t) : Con E0 19 l m t := by
  unfold loT at h
  split at h
  · rename_i i o n cap
    split at h
    · rename_i cs e
      cases h
      exact Con.popN fn19l body19l e (l := []) (l' := []) (A := intR (layJ cs o.den n.den : Nat)) nil_args (fun ty hq => longest_good o.den n.den cs ty (hq _ (by simp)) (hq _ (by simp)) (hq _ (by simp)) (by have := hgt_le (nx := toL cs o.den n.den) (n := n.den) 66 0; unfold layJ; omega)) (fun s m' R R' v h hv => int_okR (R := R) h hv)
    · cases h
  · cases h
theorem conW_ok (g : FuncId) (l : List SV) (m : SMem) (t : Tree) (h : conW g l m = some t) : Con E0 g l m t := by
  unfold conW at h
  split at h
  · exact conA_ok _ _ _ _ h
  · exact ofT2_ok h
  · exact conA_ok _ _ _ _ h
  · exact likeT_ok h
  · exact conE_ok _ _ _ _ h
  · exact lgT_ok h
  · exact conD_ok _ _ _ _ h
  · exact enT_ok h
  · exact loT_ok h
  · cases h
theorem EWl_ok : EnvOk EWl := EnvOk.with E0_ok _ _ conW_ok
end Go.Proofs.Ytebkbihhnoellaa
/- Of flow: FlowLoops. -/
namespace Go.Proofs.Ytebkbihhnoellaa
set_option maxRecDepth 100000
theorem fl_vc (off num : Nat) (cs : Array Value) (ty : TypeId) : (run EWl 8000 1 [callFr 4 Try.f4.ntmps [prS off num] (Try.f4.body.getD .skip)] (rawM cs ty)).vc (boolR true) (fun _ _ => False) =
    ((InsOk cs off num ∧ num ≠ (0 : Nat) ∧ num ≤ (1048576 : Nat) ∧ True) ∧ ((decide ((↑num : Int) > (200 : Int)) == false) = true → (RowOk (ofRow cs off num) (0 : Nat) num ∧ True) ∧ ((!mayV (ofRow cs off num) (0 : Nat) num) = true → true = true) ∧ ((!mayV (ofRow cs off num) (0 : Nat) num) = false → (InsOk cs off num ∧ True) ∧ (mayV cs off num = true → (InsOk cs off num ∧ mayV cs off num = true ∧ True) ∧ (RowOk (ofRow cs off num) (0 : Nat) num ∧ num ≤ (64 : Nat) ∧ True) ∧ (num + 1 = num + 1 ∧ LikeB (boL (cycB cs off num) (num + 1)) (boL (lpB (ofRow cs off num) (0 : Nat) num) (num + 1)) (num + 1) ∧ True) ∧ (RowOk (ofRow cs off num) (0 : Nat) num ∧ num ≤ (64 : Nat) ∧ True) ∧ ((!endB (ofRow cs off num) (0 : Nat) num) = true → (((lnV cs off num == (0 : Int)) == true) = true → (((lnE cs off num == (12 : Int)) == true) = true → true = true) ∧ (((lnE cs off num == (12 : Int)) == true) = false → false = true)) ∧ (((lnV cs off num == (0 : Int)) == true) = false → false = true)) ∧ ((!endB (ofRow cs off num) (0 : Nat) num) = false → (RowOk (ofRow cs off num) (0 : Nat) num ∧ num ≤ (64 : Nat) ∧ LayN (edN (ofRow cs off num) (0 : Nat) num) num (layJ (ofRow cs off num) (0 : Nat) num) ∧ True) ∧ (((lnV cs off num == (↑(layJ (ofRow cs off num) (0 : Nat) num) : Int)) == true) = true → (((lnE cs off num == (0 : Int)) == true) = true → true = true) ∧ (((lnE cs off num == (0 : Int)) == true) = false → false = true)) ∧ (((lnV cs off num == (↑(layJ (ofRow cs off num) (0 : Nat) num) : Int)) == true) = false → false = true))) ∧ (mayV cs off num = false → (InsOk cs off num ∧ mayV cs off num = true ∧ True) ∧ false = true))) ∧ ((decide ((↑num : Int) > (200 : Int)) == false) = false → true = true)) := by kernel_rfl
end Go.Proofs.Ytebkbihhnoellaa
/- Of flow: FlowLoops of a row that is not empty: its run. No condition. -/
namespace Go.Proofs.Ytebkbihhnoellaa
set_option linter.unusedSectionVars false
set_option maxRecDepth 100000
noncomputable def flC (off num : Nat) : List SFr := [callFr 4 Try.f4.ntmps [prS off num] (Try.f4.body.getD .skip)]
theorem toL_row {cs : Array Value} {off n : Nat} (hI : InsOk cs off n) : toL (ofRow cs off n) 0 n = toL cs off n := by
  funext a
  obtain ⟨_, h⟩ := of_row hI
  by_cases d : n ≤ a
  · unfold toL; rw [if_pos d, if_pos d]
  · have hh := h a (by omega)
    unfold toL; rw [hh]
theorem loops_run (off num : Nat) (cs : Array Value) (ty : TypeId) (hI : InsOk cs off num) (h0 : num ≠ 0) (hn : num ≤ 1048576) : Good Try.prog (boolR true) 1 (flC off num) (rawM cs ty) := by
  obtain ⟨hR, hr2⟩ := of_row hI
  have hmo := mayv_row hI
  refine run_vc EWl_ok 8000 (fl_vc off num cs ty) ?_ (fun _ _ h => h) (fun _ _ h => h.elim)
  refine ⟨⟨hI, h0, hn, trivial⟩, fun h2 => ⟨⟨hR, trivial⟩, fun _ => rfl, fun hm => ?_⟩, fun _ => rfl⟩
  have hM : mayV cs off num = true := by rw [← hmo]; simpa using hm
  have n64 := (mayV_iff.1 hM).1
  have hL : LikeB (boL (cycB cs off num) (num + 1)) (boL (lpB (ofRow cs off num) 0 num) (num + 1)) (num + 1) := like_boL (by omega) fun i hi => cyc_lp hI hM hr2 (by omega)
  have hany : anyB (lpB (ofRow cs off num) 0 num) (num + 1) = anyB (cycB cs off num) (num + 1) := anyB_congr fun i hi => (cyc_lp hI hM hr2 (by omega)).symm
  have hE : endB (ofRow cs off num) 0 num = !anyB (cycB cs off num) (num + 1) := by unfold endB; rw [hany]
  have hJ : layJ (ofRow cs off num) 0 num = hgt (toL cs off num) num 66 0 := by unfold layJ; rw [toL_row hI]
  refine ⟨⟨hI, trivial⟩, fun _ => ⟨⟨hI, hM, trivial⟩, ⟨hR, n64, trivial⟩, ⟨rfl, hL, trivial⟩, ⟨hR, n64, trivial⟩, fun he => ?_, fun he => ?_⟩, fun h => by rw [hM] at h; cases h⟩
  · have ha : anyB (cycB cs off num) (num + 1) = true := by rw [hE] at he; simpa using he
    have e1 : lnV cs off num = 0 := by unfold lnV; rw [if_pos ha]
    have e2 : lnE cs off num = 12 := by unfold lnE; rw [if_pos ha]
    rw [e1, e2]
    exact ⟨fun _ => ⟨fun _ => rfl, fun h => by cases h⟩, fun h => by cases h⟩
  · have ha : anyB (cycB cs off num) (num + 1) = false := by rw [hE] at he; simpa using he
    have hN : NoLoop cs off num := fun i hi => anyB_no.1 ha i (by omega)
    have e1 : lnV cs off num = (layJ (ofRow cs off num) 0 num : Nat) := by unfold lnV; rw [if_neg (by rw [ha]; decide), hJ]
    have e2 : lnE cs off num = 0 := by unfold lnE; rw [if_neg (by rw [ha]; decide)]
    have hlay := lay_long hI hM hN
    rw [← hJ] at hlay
    rw [e1, e2]
    refine ⟨⟨hR, n64, hlay, trivial⟩, fun _ => ⟨fun _ => rfl, fun h => by cases h⟩, fun h => ?_⟩
    simp at h
end Go.Proofs.Ytebkbihhnoellaa
