/- Of code: the rounds of CodeTells, as propositions. No condition. -/
import Derived.Test.YtaagmmljhgabfaaMA
import Derived.Test.YtaagmmljhgabfaaRows
import Derived.Test.YtaagmmljhgabfaaE1
import Derived.ProofKit
import Derived.OpenShut
import Derived.ChangeSame
import Derived.Deep.Slices
import Derived.Deep.Fields
import Derived.ChangeMaps5
namespace Go.Proofs.Ytaagmmljhgabfaa
set_option maxRecDepth 100000
theorem tl_s2 (b : ByteArray) (r : Bool) (Q0 : Int → Prop) (Q : Int → Nat → Array Value → Nat → Array Value → Prop) : (run (Et true) 1000 1 (tellC e0V (strV b)) M1).vc (boolR r) (nT false b Q0 Q) =
    ((decide (((↑(ByteArray.size b) : Int)) > (1000 : Int)) = true → true = r) ∧ (decide (((↑(ByteArray.size b) : Int)) > (1000 : Int)) = false → (ByteArray.size b ≠ (0 : Nat) ∧ ByteArray.size b < (9223372036854775807 : Nat) ∧ True) ∧ (decOk b = true → (ByteArray.size b ≠ (0 : Nat) ∧ ByteArray.size b ≤ (1000 : Nat) ∧ True) ∧ (refOk b = true → (((↑(sizeD b) : Int) != (↑(sizeD b) : Int)) = true → false = r) ∧ (((↑(sizeD b) : Int) != (↑(sizeD b) : Int)) = false → (InsOk (rowD b) (0 : Nat) (sizeD b) ∧ sizeD b ≠ (0 : Nat) ∧ sizeD b ≤ (200 : Nat) ∧ True) ∧ Q (0 : Int) (sizeD b) (rdRow b) (sizeD b) (ofRow (rowD b) (0 : Nat) (sizeD b)) ∧ CallKind.normal = CallKind.normal ∧ TodoOk (ren 1 [(1, 2), (2, 3)]) tT0 tT0 ∧ (0 : Int) = (0 : Int) ∧ sizeD b = sizeD b ∧ sizeD b = sizeD b ∧ (37 : TypeId) = (37 : TypeId) ∧ rdRow b = rdRow b ∧ (37 : TypeId) = (37 : TypeId) ∧ ofRow (rowD b) (0 : Nat) (sizeD b) = ofRow (rowD b) (0 : Nat) (sizeD b) ∧ True)) ∧ (refOk b = false → false = r)) ∧ (decOk b = false → (ByteArray.size b ≠ (0 : Nat) ∧ ByteArray.size b ≤ (1000 : Nat) ∧ True) ∧ (refOk b = true → false = r) ∧ (refOk b = false → Q0 (0 : Int) ∧ CallKind.normal = CallKind.normal ∧ TodoOk (ren 1 []) tT0 tT0 ∧ (0 : Int) = (0 : Int) ∧ Value.slice none (0 : Nat) (0 : Nat) = Value.slice none (0 : Nat) (0 : Nat) ∧ Value.slice none (0 : Nat) (0 : Nat) = Value.slice none (0 : Nat) (0 : Nat) ∧ True)))) := by kernel_rfl
theorem tl_s3 (off n : Nat) (cs : Array Value) (ty : TypeId) (r : Bool) : (run (Et false) 1000 1 (tellC (prS off n) litE) (prM true cs ty)).vc (boolR r) (fun _ _ => False) =
    (((decide ((↑n : Int) > (200 : Int)) == false) = true → (InsOk cs off n ∧ True) ∧ (mayV cs off n = true → (InsOk cs off n ∧ n ≠ (0 : Nat) ∧ n ≤ (200 : Nat) ∧ True) ∧ (RowOk (ofRow cs off n) (0 : Nat) n ∧ True) ∧ (InsOk cs off n ∧ True) ∧ (((!mayV cs off n == mayV (ofRow cs off n) (0 : Nat) n) == false) = true → ((mayV (ofRow cs off n) (0 : Nat) n == true) = true → (InsOk cs off n ∧ n ≠ (0 : Nat) ∧ n ≤ (200 : Nat) ∧ True) ∧ (RowOk (ofRow cs off n) (0 : Nat) n ∧ n ≤ (200 : Nat) ∧ True) ∧ (((match mkSB (false && false) !ByteArray.toList (encB cs off n) == ByteArray.toList (byB (ofRow cs off n) (0 : Nat) n) with | SB.l b => b | SB.o b => b) == false) = true → (((!mayV (ofRow cs off n) (0 : Nat) n) == true) = true → false = r) ∧ (((!mayV (ofRow cs off n) (0 : Nat) n) == true) = false → true = r)) ∧ (((match mkSB (false && false) !ByteArray.toList (encB cs off n) == ByteArray.toList (byB (ofRow cs off n) (0 : Nat) n) with | SB.l b => b | SB.o b => b) == false) = false → false = r)) ∧ ((mayV (ofRow cs off n) (0 : Nat) n == true) = false → (((!mayV (ofRow cs off n) (0 : Nat) n) == true) = true → false = r) ∧ (((!mayV (ofRow cs off n) (0 : Nat) n) == true) = false → true = r))) ∧ (((!mayV cs off n == mayV (ofRow cs off n) (0 : Nat) n) == false) = false → false = r)) ∧ (mayV cs off n = false → (InsOk cs off n ∧ n ≠ (0 : Nat) ∧ n ≤ (200 : Nat) ∧ True) ∧ (RowOk (ofRow cs off n) (0 : Nat) n ∧ True) ∧ (InsOk cs off n ∧ True) ∧ (((!mayV cs off n == mayV (ofRow cs off n) (0 : Nat) n) == false) = true → ((mayV (ofRow cs off n) (0 : Nat) n == true) = true → false = r) ∧ ((mayV (ofRow cs off n) (0 : Nat) n == true) = false → (((!mayV (ofRow cs off n) (0 : Nat) n) == true) = true → true = r) ∧ (((!mayV (ofRow cs off n) (0 : Nat) n) == true) = false → true = r))) ∧ (((!mayV cs off n == mayV (ofRow cs off n) (0 : Nat) n) == false) = false → false = r))) ∧ ((decide ((↑n : Int) > (200 : Int)) == false) = false → true = r)) := by kernel_rfl
theorem tl_s4 (off n : Nat) (cs : Array Value) (ty : TypeId) (b : ByteArray) (r : Bool) (Q0 : Int → Prop) (Q : Int → Nat → Array Value → Nat → Array Value → Prop) : (run (Et true) 1000 1 (tellC (prS off n) (strV b)) (prM true cs ty)).vc (boolR r) (nT false b Q0 Q) =
    (((decide ((↑n : Int) > (200 : Int)) == false) = true → (decide (((↑(ByteArray.size b) : Int)) > (1000 : Int)) = true → true = r) ∧ (decide (((↑(ByteArray.size b) : Int)) > (1000 : Int)) = false → (InsOk cs off n ∧ True) ∧ (mayV cs off n = true → (InsOk cs off n ∧ n ≠ (0 : Nat) ∧ n ≤ (200 : Nat) ∧ True) ∧ (RowOk (ofRow cs off n) (0 : Nat) n ∧ True) ∧ (InsOk cs off n ∧ True) ∧ (((!mayV cs off n == mayV (ofRow cs off n) (0 : Nat) n) == false) = true → ((mayV (ofRow cs off n) (0 : Nat) n == true) = true → (InsOk cs off n ∧ n ≠ (0 : Nat) ∧ n ≤ (200 : Nat) ∧ True) ∧ (RowOk (ofRow cs off n) (0 : Nat) n ∧ n ≤ (200 : Nat) ∧ True) ∧ (((match mkSB (false && false) !ByteArray.toList (encB cs off n) == ByteArray.toList (byB (ofRow cs off n) (0 : Nat) n) with | SB.l b => b | SB.o b => b) == false) = true → (((!mayV (ofRow cs off n) (0 : Nat) n) == true) = true → false = r) ∧ (((!mayV (ofRow cs off n) (0 : Nat) n) == true) = false → (ByteArray.size b ≠ (0 : Nat) ∧ ByteArray.size b < (9223372036854775807 : Nat) ∧ True) ∧ (decOk b = true → (ByteArray.size b ≠ (0 : Nat) ∧ ByteArray.size b ≤ (1000 : Nat) ∧ True) ∧ (refOk b = true → (((↑(sizeD b) : Int) != (↑(sizeD b) : Int)) = true → false = r) ∧ (((↑(sizeD b) : Int) != (↑(sizeD b) : Int)) = false → (InsOk (rowD b) (0 : Nat) (sizeD b) ∧ sizeD b ≠ (0 : Nat) ∧ sizeD b ≤ (200 : Nat) ∧ True) ∧ Q (0 : Int) (sizeD b) (rdRow b) (sizeD b) (ofRow (rowD b) (0 : Nat) (sizeD b)) ∧ CallKind.normal = CallKind.normal ∧ TodoOk (ren 1 [(1, 4), (2, 5)]) tT0 tT0 ∧ (0 : Int) = (0 : Int) ∧ sizeD b = sizeD b ∧ sizeD b = sizeD b ∧ (37 : TypeId) = (37 : TypeId) ∧ rdRow b = rdRow b ∧ (37 : TypeId) = (37 : TypeId) ∧ ofRow (rowD b) (0 : Nat) (sizeD b) = ofRow (rowD b) (0 : Nat) (sizeD b) ∧ True)) ∧ (refOk b = false → false = r)) ∧ (decOk b = false → (ByteArray.size b ≠ (0 : Nat) ∧ ByteArray.size b ≤ (1000 : Nat) ∧ True) ∧ (refOk b = true → false = r) ∧ (refOk b = false → Q0 (0 : Int) ∧ CallKind.normal = CallKind.normal ∧ TodoOk (ren 1 []) tT0 tT0 ∧ (0 : Int) = (0 : Int) ∧ Value.slice none (0 : Nat) (0 : Nat) = Value.slice none (0 : Nat) (0 : Nat) ∧ Value.slice none (0 : Nat) (0 : Nat) = Value.slice none (0 : Nat) (0 : Nat) ∧ True)))) ∧ (((match mkSB (false && false) !ByteArray.toList (encB cs off n) == ByteArray.toList (byB (ofRow cs off n) (0 : Nat) n) with | SB.l b => b | SB.o b => b) == false) = false → false = r)) ∧ ((mayV (ofRow cs off n) (0 : Nat) n == true) = false → (((!mayV (ofRow cs off n) (0 : Nat) n) == true) = true → false = r) ∧ (((!mayV (ofRow cs off n) (0 : Nat) n) == true) = false → (ByteArray.size b ≠ (0 : Nat) ∧ ByteArray.size b < (9223372036854775807 : Nat) ∧ True) ∧ (decOk b = true → (ByteArray.size b ≠ (0 : Nat) ∧ ByteArray.size b ≤ (1000 : Nat) ∧ True) ∧ (refOk b = true → (((↑(sizeD b) : Int) != (↑(sizeD b) : Int)) = true → false = r) ∧ (((↑(sizeD b) : Int) != (↑(sizeD b) : Int)) = false → (InsOk (rowD b) (0 : Nat) (sizeD b) ∧ sizeD b ≠ (0 : Nat) ∧ sizeD b ≤ (200 : Nat) ∧ True) ∧ Q (0 : Int) (sizeD b) (rdRow b) (sizeD b) (ofRow (rowD b) (0 : Nat) (sizeD b)) ∧ CallKind.normal = CallKind.normal ∧ TodoOk (ren 1 [(1, 3), (2, 4)]) tT0 tT0 ∧ (0 : Int) = (0 : Int) ∧ sizeD b = sizeD b ∧ sizeD b = sizeD b ∧ (37 : TypeId) = (37 : TypeId) ∧ rdRow b = rdRow b ∧ (37 : TypeId) = (37 : TypeId) ∧ ofRow (rowD b) (0 : Nat) (sizeD b) = ofRow (rowD b) (0 : Nat) (sizeD b) ∧ True)) ∧ (refOk b = false → false = r)) ∧ (decOk b = false → (ByteArray.size b ≠ (0 : Nat) ∧ ByteArray.size b ≤ (1000 : Nat) ∧ True) ∧ (refOk b = true → false = r) ∧ (refOk b = false → Q0 (0 : Int) ∧ CallKind.normal = CallKind.normal ∧ TodoOk (ren 1 []) tT0 tT0 ∧ (0 : Int) = (0 : Int) ∧ Value.slice none (0 : Nat) (0 : Nat) = Value.slice none (0 : Nat) (0 : Nat) ∧ Value.slice none (0 : Nat) (0 : Nat) = Value.slice none (0 : Nat) (0 : Nat) ∧ True))))) ∧ (((!mayV cs off n == mayV (ofRow cs off n) (0 : Nat) n) == false) = false → false = r)) ∧ (mayV cs off n = false → (InsOk cs off n ∧ n ≠ (0 : Nat) ∧ n ≤ (200 : Nat) ∧ True) ∧ (RowOk (ofRow cs off n) (0 : Nat) n ∧ True) ∧ (InsOk cs off n ∧ True) ∧ (((!mayV cs off n == mayV (ofRow cs off n) (0 : Nat) n) == false) = true → ((mayV (ofRow cs off n) (0 : Nat) n == true) = true → false = r) ∧ ((mayV (ofRow cs off n) (0 : Nat) n == true) = false → (((!mayV (ofRow cs off n) (0 : Nat) n) == true) = true → (ByteArray.size b ≠ (0 : Nat) ∧ ByteArray.size b < (9223372036854775807 : Nat) ∧ True) ∧ (decOk b = true → (ByteArray.size b ≠ (0 : Nat) ∧ ByteArray.size b ≤ (1000 : Nat) ∧ True) ∧ (refOk b = true → (((↑(sizeD b) : Int) != (↑(sizeD b) : Int)) = true → false = r) ∧ (((↑(sizeD b) : Int) != (↑(sizeD b) : Int)) = false → (InsOk (rowD b) (0 : Nat) (sizeD b) ∧ sizeD b ≠ (0 : Nat) ∧ sizeD b ≤ (200 : Nat) ∧ True) ∧ Q (0 : Int) (sizeD b) (rdRow b) (sizeD b) (ofRow (rowD b) (0 : Nat) (sizeD b)) ∧ CallKind.normal = CallKind.normal ∧ TodoOk (ren 1 [(1, 3), (2, 4)]) tT0 tT0 ∧ (0 : Int) = (0 : Int) ∧ sizeD b = sizeD b ∧ sizeD b = sizeD b ∧ (37 : TypeId) = (37 : TypeId) ∧ rdRow b = rdRow b ∧ (37 : TypeId) = (37 : TypeId) ∧ ofRow (rowD b) (0 : Nat) (sizeD b) = ofRow (rowD b) (0 : Nat) (sizeD b) ∧ True)) ∧ (refOk b = false → false = r)) ∧ (decOk b = false → (ByteArray.size b ≠ (0 : Nat) ∧ ByteArray.size b ≤ (1000 : Nat) ∧ True) ∧ (refOk b = true → false = r) ∧ (refOk b = false → Q0 (0 : Int) ∧ CallKind.normal = CallKind.normal ∧ TodoOk (ren 1 []) tT0 tT0 ∧ (0 : Int) = (0 : Int) ∧ Value.slice none (0 : Nat) (0 : Nat) = Value.slice none (0 : Nat) (0 : Nat) ∧ Value.slice none (0 : Nat) (0 : Nat) = Value.slice none (0 : Nat) (0 : Nat) ∧ True))) ∧ (((!mayV (ofRow cs off n) (0 : Nat) n) == true) = false → (ByteArray.size b ≠ (0 : Nat) ∧ ByteArray.size b < (9223372036854775807 : Nat) ∧ True) ∧ (decOk b = true → (ByteArray.size b ≠ (0 : Nat) ∧ ByteArray.size b ≤ (1000 : Nat) ∧ True) ∧ (refOk b = true → (((↑(sizeD b) : Int) != (↑(sizeD b) : Int)) = true → false = r) ∧ (((↑(sizeD b) : Int) != (↑(sizeD b) : Int)) = false → (InsOk (rowD b) (0 : Nat) (sizeD b) ∧ sizeD b ≠ (0 : Nat) ∧ sizeD b ≤ (200 : Nat) ∧ True) ∧ Q (0 : Int) (sizeD b) (rdRow b) (sizeD b) (ofRow (rowD b) (0 : Nat) (sizeD b)) ∧ CallKind.normal = CallKind.normal ∧ TodoOk (ren 1 [(1, 3), (2, 4)]) tT0 tT0 ∧ (0 : Int) = (0 : Int) ∧ sizeD b = sizeD b ∧ sizeD b = sizeD b ∧ (37 : TypeId) = (37 : TypeId) ∧ rdRow b = rdRow b ∧ (37 : TypeId) = (37 : TypeId) ∧ ofRow (rowD b) (0 : Nat) (sizeD b) = ofRow (rowD b) (0 : Nat) (sizeD b) ∧ True)) ∧ (refOk b = false → false = r)) ∧ (decOk b = false → (ByteArray.size b ≠ (0 : Nat) ∧ ByteArray.size b ≤ (1000 : Nat) ∧ True) ∧ (refOk b = true → false = r) ∧ (refOk b = false → Q0 (0 : Int) ∧ CallKind.normal = CallKind.normal ∧ TodoOk (ren 1 []) tT0 tT0 ∧ (0 : Int) = (0 : Int) ∧ Value.slice none (0 : Nat) (0 : Nat) = Value.slice none (0 : Nat) (0 : Nat) ∧ Value.slice none (0 : Nat) (0 : Nat) = Value.slice none (0 : Nat) (0 : Nat) ∧ True))))) ∧ (((!mayV cs off n == mayV (ofRow cs off n) (0 : Nat) n) == false) = false → false = r)))) ∧ ((decide ((↑n : Int) > (200 : Int)) == false) = false → true = r)) := by kernel_rfl
theorem tl_n (b : ByteArray) (i : Int) (r : Bool) (Q0 : Int → Prop) (Q : Int → Nat → Array Value → Nat → Array Value → Prop) : (stepT (Et true).go (run (Et true) 1000) 1 (headF (tF0 b i)) M1).vc (boolR r) (nT true b Q0 Q) =
    ((decide (i < (0 : Int)) = true → False) ∧ (decide (i < (0 : Int)) = false → true = r)) := by kernel_rfl
theorem tl_u (b : ByteArray) (i : Int) (k k' : Nat) (rs ds : Array Value) (r : Bool) (Q0 : Int → Prop) (Q : Int → Nat → Array Value → Nat → Array Value → Prop) : (stepT (Et true).go (run (Et true) 1000) 1 (headF (tF1 b i k k')) (tM rs ds)).vc (boolR r) (nT true b Q0 Q) =
    ((decide (i < (↑k : Int)) = true → (((0 : Int) ≤ i ∧ i < (↑k' : Int)) ∧ True) ∧ (IsInt IntKind.i64 ds ((0 : Nat) + Int.toNat i * 5) ∧ IsInt IntKind.i64 ds ((0 : Nat) + Int.toNat i * 5 + 1) ∧ IsInt IntKind.i64 ds ((0 : Nat) + Int.toNat i * 5 + 2) ∧ IsInt IntKind.i64 ds ((0 : Nat) + Int.toNat i * 5 + 3) ∧ IsInt IntKind.i64 ds ((0 : Nat) + Int.toNat i * 5 + 4) ∧ True) ∧ (((0 : Int) ≤ i ∧ i < (↑k : Int)) ∧ True) ∧ (IsInt IntKind.i64 rs ((0 : Nat) + Int.toNat i * 5) ∧ IsInt IntKind.i64 rs ((0 : Nat) + Int.toNat i * 5 + 1) ∧ IsInt IntKind.i64 rs ((0 : Nat) + Int.toNat i * 5 + 2) ∧ IsInt IntKind.i64 rs ((0 : Nat) + Int.toNat i * 5 + 3) ∧ IsInt IntKind.i64 rs ((0 : Nat) + Int.toNat i * 5 + 4) ∧ True) ∧ ((!(intAt ds ((0 : Nat) + Int.toNat i * 5) == intAt rs ((0 : Nat) + Int.toNat i * 5) && (intAt ds ((0 : Nat) + Int.toNat i * 5 + 1) == intAt rs ((0 : Nat) + Int.toNat i * 5 + 1) && (intAt ds ((0 : Nat) + Int.toNat i * 5 + 2) == intAt rs ((0 : Nat) + Int.toNat i * 5 + 2) && (intAt ds ((0 : Nat) + Int.toNat i * 5 + 3) == intAt rs ((0 : Nat) + Int.toNat i * 5 + 3) && intAt ds ((0 : Nat) + Int.toNat i * 5 + 4) == intAt rs ((0 : Nat) + Int.toNat i * 5 + 4)))))) = true → false = r) ∧ ((!(intAt ds ((0 : Nat) + Int.toNat i * 5) == intAt rs ((0 : Nat) + Int.toNat i * 5) && (intAt ds ((0 : Nat) + Int.toNat i * 5 + 1) == intAt rs ((0 : Nat) + Int.toNat i * 5 + 1) && (intAt ds ((0 : Nat) + Int.toNat i * 5 + 2) == intAt rs ((0 : Nat) + Int.toNat i * 5 + 2) && (intAt ds ((0 : Nat) + Int.toNat i * 5 + 3) == intAt rs ((0 : Nat) + Int.toNat i * 5 + 3) && intAt ds ((0 : Nat) + Int.toNat i * 5 + 4) == intAt rs ((0 : Nat) + Int.toNat i * 5 + 4)))))) = false → Q (ari BinOp.add IntKind.i64 i (1 : Int)) k rs k' ds ∧ CallKind.normal = CallKind.normal ∧ TodoOk (ren 1 [(1, 1), (2, 2)]) tH0 tH0 ∧ ari BinOp.add IntKind.i64 i (1 : Int) = ari BinOp.add IntKind.i64 i (1 : Int) ∧ k' = k' ∧ k = k ∧ (37 : TypeId) = (37 : TypeId) ∧ rs = rs ∧ (37 : TypeId) = (37 : TypeId) ∧ ds = ds ∧ True)) ∧ (decide (i < (↑k : Int)) = false → true = r)) := by kernel_rfl
end Go.Proofs.Ytaagmmljhgabfaa
/- Of code: the rounds of CodeBack, as propositions. No condition. -/
namespace Go.Proofs.Ytaagmmljhgabfaa
set_option maxRecDepth 100000
theorem bk_s2 (b : ByteArray) (r : Bool) (Q : Int → Int → ByteArray → Nat → Array Value → Prop) : (run (Eh false true) 1000 1 (backC e0V (strV b)) M1).vc (boolR r) (n20 false b Q) =
    ((decide (((↑(ByteArray.size b) : Int)) > (1000 : Int)) = true → true = r) ∧ (decide (((↑(ByteArray.size b) : Int)) > (1000 : Int)) = false → (ByteArray.size b ≠ (0 : Nat) ∧ ByteArray.size b < (9223372036854775807 : Nat) ∧ True) ∧ (decOk b = true → (InsOk (rowD b) (0 : Nat) (sizeD b) ∧ True) ∧ (mayV (rowD b) (0 : Nat) (sizeD b) = true → Q (0 : Int) (0 : Int) (encB (rowD b) (0 : Nat) (sizeD b)) (sizeD b) (rowD b) ∧ CallKind.normal = CallKind.normal ∧ TodoOk (ren 1 [(1, 1)]) bT20 bT20 ∧ Value.string b = Value.string b ∧ (0 : Int) = (0 : Int) ∧ Value.string ((List.brecOn.go (motive := fun x => ByteArray → ByteArray) (encL (rowD b) (0 : Nat) (sizeD b)) (List.foldl._f fun r v => ByteArray.push r (UInt8.ofNat (match v with | Value.int k n => Int.toNat n | x => (0 : Nat))))).1 ByteArray.empty) = Value.string ((List.brecOn.go (motive := fun x => ByteArray → ByteArray) (encL (rowD b) (0 : Nat) (sizeD b)) (List.foldl._f fun r v => ByteArray.push r (UInt8.ofNat (match v with | Value.int k n => Int.toNat n | x => (0 : Nat))))).1 ByteArray.empty) ∧ sizeD b = sizeD b ∧ (0 : Int) = (0 : Int) ∧ (41 : TypeId) = (41 : TypeId) ∧ rowD b = rowD b ∧ True) ∧ (mayV (rowD b) (0 : Nat) (sizeD b) = false → Q (0 : Int) (3 : Int) ByteArray.empty (sizeD b) (rowD b) ∧ CallKind.normal = CallKind.normal ∧ TodoOk (ren 1 [(1, 1)]) bT20 bT20 ∧ Value.string b = Value.string b ∧ (3 : Int) = (3 : Int) ∧ Value.string (ByteArray.mk (Array.mk [])) = Value.string (ByteArray.mk (Array.mk [])) ∧ sizeD b = sizeD b ∧ (0 : Int) = (0 : Int) ∧ (41 : TypeId) = (41 : TypeId) ∧ rowD b = rowD b ∧ True)) ∧ (decOk b = false → true = r))) := by kernel_rfl
theorem bk_s3 (off n : Nat) (cs : Array Value) (ty : TypeId) (b : ByteArray) (r : Bool) (Q : Int → Prop) (Q2 : Int → Int → ByteArray → Nat → Array Value → Prop) : (bk false off n cs ty b).vc (boolR r) (nB false false off n cs ty b Q Q2) =
    (((decide ((↑n : Int) > (200 : Int)) == false) = true → (InsOk cs off n ∧ True) ∧ (mayV cs off n = true → (InsOk cs off n ∧ True) ∧ ((!((0 : Int) == (0 : Int)) == mayV cs off n) = true → false = r) ∧ ((!((0 : Int) == (0 : Int)) == mayV cs off n) = false → (ByteArray.size (encB cs off n) ≠ (0 : Nat) ∧ ByteArray.size (encB cs off n) < (9223372036854775807 : Nat) ∧ True) ∧ (decOk (encB cs off n) = true → (((↑(sizeD (encB cs off n)) : Int) != (↑n : Int)) = true → false = r) ∧ (((↑(sizeD (encB cs off n)) : Int) != (↑n : Int)) = false → Q (0 : Int) ∧ CallKind.normal = CallKind.normal ∧ TodoOk (ren 1 [(1, 1)]) bT11 bT11 ∧ off = off ∧ n = n ∧ Value.string (ByteArray.mk (Array.mk [])) = Value.string (ByteArray.mk (Array.mk [])) ∧ sizeD (encB cs off n) = sizeD (encB cs off n) ∧ off = off ∧ n = n ∧ off = off ∧ n = n ∧ (↑n : Int) = (↑n : Int) ∧ sizeD (encB cs off n) = sizeD (encB cs off n) ∧ Value.string (ByteArray.mk (Array.mk [])) = Value.string (ByteArray.mk (Array.mk [])) ∧ Value.string ((List.brecOn.go (motive := fun x => ByteArray → ByteArray) (encL cs off n) (List.foldl._f fun r v => ByteArray.push r (UInt8.ofNat (match v with | Value.int k n => Int.toNat n | x => (0 : Nat))))).1 ByteArray.empty) = Value.string ((List.brecOn.go (motive := fun x => ByteArray → ByteArray) (encL cs off n) (List.foldl._f fun r v => ByteArray.push r (UInt8.ofNat (match v with | Value.int k n => Int.toNat n | x => (0 : Nat))))).1 ByteArray.empty) ∧ Value.string ((List.brecOn.go (motive := fun x => ByteArray → ByteArray) (encL cs off n) (List.foldl._f fun r v => ByteArray.push r (UInt8.ofNat (match v with | Value.int k n => Int.toNat n | x => (0 : Nat))))).1 ByteArray.empty) = Value.string ((List.brecOn.go (motive := fun x => ByteArray → ByteArray) (encL cs off n) (List.foldl._f fun r v => ByteArray.push r (UInt8.ofNat (match v with | Value.int k n => Int.toNat n | x => (0 : Nat))))).1 ByteArray.empty) ∧ (0 : Int) = (0 : Int) ∧ decide ((↑n : Int) > (200 : Int)) = decide ((↑n : Int) > (200 : Int)) ∧ off = off ∧ n = n ∧ Value.string ((List.brecOn.go (motive := fun x => ByteArray → ByteArray) (encL cs off n) (List.foldl._f fun r v => ByteArray.push r (UInt8.ofNat (match v with | Value.int k n => Int.toNat n | x => (0 : Nat))))).1 ByteArray.empty) = Value.string ((List.brecOn.go (motive := fun x => ByteArray → ByteArray) (encL cs off n) (List.foldl._f fun r v => ByteArray.push r (UInt8.ofNat (match v with | Value.int k n => Int.toNat n | x => (0 : Nat))))).1 ByteArray.empty) ∧ (↑(sizeD (encB cs off n)) : Int) = (↑(sizeD (encB cs off n)) : Int) ∧ (↑n : Int) = (↑n : Int) ∧ mayV cs off n = mayV cs off n ∧ ((↑(sizeD (encB cs off n)) : Int) != (↑n : Int)) = ((↑(sizeD (encB cs off n)) : Int) != (↑n : Int)) ∧ Value.string ((List.brecOn.go (motive := fun x => ByteArray → ByteArray) (encL cs off n) (List.foldl._f fun r v => ByteArray.push r (UInt8.ofNat (match v with | Value.int k n => Int.toNat n | x => (0 : Nat))))).1 ByteArray.empty) = Value.string ((List.brecOn.go (motive := fun x => ByteArray → ByteArray) (encL cs off n) (List.foldl._f fun r v => ByteArray.push r (UInt8.ofNat (match v with | Value.int k n => Int.toNat n | x => (0 : Nat))))).1 ByteArray.empty) ∧ sizeD (encB cs off n) = sizeD (encB cs off n) ∧ sizeD (encB cs off n) = sizeD (encB cs off n) ∧ Value.string ((List.brecOn.go (motive := fun x => ByteArray → ByteArray) (encL cs off n) (List.foldl._f fun r v => ByteArray.push r (UInt8.ofNat (match v with | Value.int k n => Int.toNat n | x => (0 : Nat))))).1 ByteArray.empty) = Value.string ((List.brecOn.go (motive := fun x => ByteArray → ByteArray) (encL cs off n) (List.foldl._f fun r v => ByteArray.push r (UInt8.ofNat (match v with | Value.int k n => Int.toNat n | x => (0 : Nat))))).1 ByteArray.empty) ∧ sizeD (encB cs off n) = sizeD (encB cs off n) ∧ off = off ∧ n = n ∧ ty = ty ∧ cs = cs ∧ (41 : TypeId) = (41 : TypeId) ∧ rowD (encB cs off n) = rowD (encB cs off n) ∧ True)) ∧ (decOk (encB cs off n) = false → false = r))) ∧ (mayV cs off n = false → (InsOk cs off n ∧ True) ∧ ((!((3 : Int) == (0 : Int)) == mayV cs off n) = true → false = r) ∧ ((!((3 : Int) == (0 : Int)) == mayV cs off n) = false → true = r))) ∧ ((decide ((↑n : Int) > (200 : Int)) == false) = false → true = r)) := by kernel_rfl
theorem bk_s4 (off n : Nat) (cs : Array Value) (ty : TypeId) (b : ByteArray) (r : Bool) (Q : Int → Prop) (Q2 : Int → Int → ByteArray → Nat → Array Value → Prop) : (bk true off n cs ty b).vc (boolR r) (nB false true off n cs ty b Q Q2) =
    (((decide ((↑n : Int) > (200 : Int)) == false) = true → (decide (((↑(ByteArray.size b) : Int)) > (1000 : Int)) = true → true = r) ∧ (decide (((↑(ByteArray.size b) : Int)) > (1000 : Int)) = false → (InsOk cs off n ∧ True) ∧ (mayV cs off n = true → (InsOk cs off n ∧ True) ∧ ((!((0 : Int) == (0 : Int)) == mayV cs off n) = true → false = r) ∧ ((!((0 : Int) == (0 : Int)) == mayV cs off n) = false → (ByteArray.size (encB cs off n) ≠ (0 : Nat) ∧ ByteArray.size (encB cs off n) < (9223372036854775807 : Nat) ∧ True) ∧ (decOk (encB cs off n) = true → (((↑(sizeD (encB cs off n)) : Int) != (↑n : Int)) = true → false = r) ∧ (((↑(sizeD (encB cs off n)) : Int) != (↑n : Int)) = false → Q (0 : Int) ∧ CallKind.normal = CallKind.normal ∧ TodoOk (ren 1 [(1, 1)]) bT11 bT11 ∧ off = off ∧ n = n ∧ Value.string b = Value.string b ∧ sizeD (encB cs off n) = sizeD (encB cs off n) ∧ off = off ∧ n = n ∧ off = off ∧ n = n ∧ (↑n : Int) = (↑n : Int) ∧ sizeD (encB cs off n) = sizeD (encB cs off n) ∧ Value.string b = Value.string b ∧ Value.string ((List.brecOn.go (motive := fun x => ByteArray → ByteArray) (encL cs off n) (List.foldl._f fun r v => ByteArray.push r (UInt8.ofNat (match v with | Value.int k n => Int.toNat n | x => (0 : Nat))))).1 ByteArray.empty) = Value.string ((List.brecOn.go (motive := fun x => ByteArray → ByteArray) (encL cs off n) (List.foldl._f fun r v => ByteArray.push r (UInt8.ofNat (match v with | Value.int k n => Int.toNat n | x => (0 : Nat))))).1 ByteArray.empty) ∧ Value.string ((List.brecOn.go (motive := fun x => ByteArray → ByteArray) (encL cs off n) (List.foldl._f fun r v => ByteArray.push r (UInt8.ofNat (match v with | Value.int k n => Int.toNat n | x => (0 : Nat))))).1 ByteArray.empty) = Value.string ((List.brecOn.go (motive := fun x => ByteArray → ByteArray) (encL cs off n) (List.foldl._f fun r v => ByteArray.push r (UInt8.ofNat (match v with | Value.int k n => Int.toNat n | x => (0 : Nat))))).1 ByteArray.empty) ∧ (0 : Int) = (0 : Int) ∧ decide ((↑n : Int) > (200 : Int)) = decide ((↑n : Int) > (200 : Int)) ∧ off = off ∧ n = n ∧ decide (((↑(ByteArray.size b) : Int)) > (1000 : Int)) = decide (((↑(ByteArray.size b) : Int)) > (1000 : Int)) ∧ Value.string ((List.brecOn.go (motive := fun x => ByteArray → ByteArray) (encL cs off n) (List.foldl._f fun r v => ByteArray.push r (UInt8.ofNat (match v with | Value.int k n => Int.toNat n | x => (0 : Nat))))).1 ByteArray.empty) = Value.string ((List.brecOn.go (motive := fun x => ByteArray → ByteArray) (encL cs off n) (List.foldl._f fun r v => ByteArray.push r (UInt8.ofNat (match v with | Value.int k n => Int.toNat n | x => (0 : Nat))))).1 ByteArray.empty) ∧ (↑(sizeD (encB cs off n)) : Int) = (↑(sizeD (encB cs off n)) : Int) ∧ (↑n : Int) = (↑n : Int) ∧ mayV cs off n = mayV cs off n ∧ ((↑(sizeD (encB cs off n)) : Int) != (↑n : Int)) = ((↑(sizeD (encB cs off n)) : Int) != (↑n : Int)) ∧ Value.string ((List.brecOn.go (motive := fun x => ByteArray → ByteArray) (encL cs off n) (List.foldl._f fun r v => ByteArray.push r (UInt8.ofNat (match v with | Value.int k n => Int.toNat n | x => (0 : Nat))))).1 ByteArray.empty) = Value.string ((List.brecOn.go (motive := fun x => ByteArray → ByteArray) (encL cs off n) (List.foldl._f fun r v => ByteArray.push r (UInt8.ofNat (match v with | Value.int k n => Int.toNat n | x => (0 : Nat))))).1 ByteArray.empty) ∧ (((↑(ByteArray.size b) : Int)) = (↑(ByteArray.size b) : Int)) ∧ sizeD (encB cs off n) = sizeD (encB cs off n) ∧ sizeD (encB cs off n) = sizeD (encB cs off n) ∧ Value.string ((List.brecOn.go (motive := fun x => ByteArray → ByteArray) (encL cs off n) (List.foldl._f fun r v => ByteArray.push r (UInt8.ofNat (match v with | Value.int k n => Int.toNat n | x => (0 : Nat))))).1 ByteArray.empty) = Value.string ((List.brecOn.go (motive := fun x => ByteArray → ByteArray) (encL cs off n) (List.foldl._f fun r v => ByteArray.push r (UInt8.ofNat (match v with | Value.int k n => Int.toNat n | x => (0 : Nat))))).1 ByteArray.empty) ∧ sizeD (encB cs off n) = sizeD (encB cs off n) ∧ off = off ∧ n = n ∧ ty = ty ∧ cs = cs ∧ (41 : TypeId) = (41 : TypeId) ∧ rowD (encB cs off n) = rowD (encB cs off n) ∧ True)) ∧ (decOk (encB cs off n) = false → false = r))) ∧ (mayV cs off n = false → (InsOk cs off n ∧ True) ∧ ((!((3 : Int) == (0 : Int)) == mayV cs off n) = true → false = r) ∧ ((!((3 : Int) == (0 : Int)) == mayV cs off n) = false → (ByteArray.size b ≠ (0 : Nat) ∧ ByteArray.size b < (9223372036854775807 : Nat) ∧ True) ∧ (decOk b = true → (InsOk (rowD b) (0 : Nat) (sizeD b) ∧ True) ∧ (mayV (rowD b) (0 : Nat) (sizeD b) = true → Q2 (0 : Int) (0 : Int) (encB (rowD b) (0 : Nat) (sizeD b)) (sizeD b) (rowD b) ∧ CallKind.normal = CallKind.normal ∧ TodoOk (ren 1 [(1, 1)]) bT20 bT20 ∧ Value.string b = Value.string b ∧ (0 : Int) = (0 : Int) ∧ Value.string ((List.brecOn.go (motive := fun x => ByteArray → ByteArray) (encL (rowD b) (0 : Nat) (sizeD b)) (List.foldl._f fun r v => ByteArray.push r (UInt8.ofNat (match v with | Value.int k n => Int.toNat n | x => (0 : Nat))))).1 ByteArray.empty) = Value.string ((List.brecOn.go (motive := fun x => ByteArray → ByteArray) (encL (rowD b) (0 : Nat) (sizeD b)) (List.foldl._f fun r v => ByteArray.push r (UInt8.ofNat (match v with | Value.int k n => Int.toNat n | x => (0 : Nat))))).1 ByteArray.empty) ∧ sizeD b = sizeD b ∧ (0 : Int) = (0 : Int) ∧ (41 : TypeId) = (41 : TypeId) ∧ rowD b = rowD b ∧ True) ∧ (mayV (rowD b) (0 : Nat) (sizeD b) = false → Q2 (0 : Int) (3 : Int) ByteArray.empty (sizeD b) (rowD b) ∧ CallKind.normal = CallKind.normal ∧ TodoOk (ren 1 [(1, 1)]) bT20 bT20 ∧ Value.string b = Value.string b ∧ (3 : Int) = (3 : Int) ∧ Value.string (ByteArray.mk (Array.mk [])) = Value.string (ByteArray.mk (Array.mk [])) ∧ sizeD b = sizeD b ∧ (0 : Int) = (0 : Int) ∧ (41 : TypeId) = (41 : TypeId) ∧ rowD b = rowD b ∧ True)) ∧ (decOk b = false → true = r))))) ∧ ((decide ((↑n : Int) > (200 : Int)) == false) = false → true = r)) := by kernel_rfl
theorem bk_t3 (off n : Nat) (cs : Array Value) (ty : TypeId) (b : ByteArray) (i : Int) (r : Bool) (Q : Int → Prop) (Q2 : Int → Int → ByteArray → Nat → Array Value → Prop) : (stepT (Eh true false).go (run (Eh true false) 1000) 1 (headF (b11F false off n cs ty b i)) (b11M false off n cs ty b)).vc (boolR r) (nB true false off n cs ty b Q Q2) =
    ((decide (i < (↑n : Int)) = true → (((0 : Int) ≤ i ∧ i < (↑(sizeD (encB cs off n)) : Int)) ∧ True) ∧ (IsInt IntKind.u8 (rowD (encB cs off n)) ((0 : Nat) + Int.toNat i * 5) ∧ IsInt IntKind.u8 (rowD (encB cs off n)) ((0 : Nat) + Int.toNat i * 5 + 1) ∧ IsInt IntKind.u8 (rowD (encB cs off n)) ((0 : Nat) + Int.toNat i * 5 + 2) ∧ IsInt IntKind.u8 (rowD (encB cs off n)) ((0 : Nat) + Int.toNat i * 5 + 3) ∧ IsInt IntKind.u16 (rowD (encB cs off n)) ((0 : Nat) + Int.toNat i * 5 + 4) ∧ True) ∧ (((0 : Int) ≤ i ∧ i < (↑n : Int)) ∧ True) ∧ (IsInt IntKind.u8 cs (off + Int.toNat i * 5) ∧ IsInt IntKind.u8 cs (off + Int.toNat i * 5 + 1) ∧ IsInt IntKind.u8 cs (off + Int.toNat i * 5 + 2) ∧ IsInt IntKind.u8 cs (off + Int.toNat i * 5 + 3) ∧ IsInt IntKind.u16 cs (off + Int.toNat i * 5 + 4) ∧ True) ∧ ((!(intAt (rowD (encB cs off n)) ((0 : Nat) + Int.toNat i * 5) == intAt cs (off + Int.toNat i * 5) && (intAt (rowD (encB cs off n)) ((0 : Nat) + Int.toNat i * 5 + 1) == intAt cs (off + Int.toNat i * 5 + 1) && (intAt (rowD (encB cs off n)) ((0 : Nat) + Int.toNat i * 5 + 2) == intAt cs (off + Int.toNat i * 5 + 2) && (intAt (rowD (encB cs off n)) ((0 : Nat) + Int.toNat i * 5 + 3) == intAt cs (off + Int.toNat i * 5 + 3) && intAt (rowD (encB cs off n)) ((0 : Nat) + Int.toNat i * 5 + 4) == intAt cs (off + Int.toNat i * 5 + 4)))))) = true → false = r) ∧ ((!(intAt (rowD (encB cs off n)) ((0 : Nat) + Int.toNat i * 5) == intAt cs (off + Int.toNat i * 5) && (intAt (rowD (encB cs off n)) ((0 : Nat) + Int.toNat i * 5 + 1) == intAt cs (off + Int.toNat i * 5 + 1) && (intAt (rowD (encB cs off n)) ((0 : Nat) + Int.toNat i * 5 + 2) == intAt cs (off + Int.toNat i * 5 + 2) && (intAt (rowD (encB cs off n)) ((0 : Nat) + Int.toNat i * 5 + 3) == intAt cs (off + Int.toNat i * 5 + 3) && intAt (rowD (encB cs off n)) ((0 : Nat) + Int.toNat i * 5 + 4) == intAt cs (off + Int.toNat i * 5 + 4)))))) = false → Q (ari BinOp.add IntKind.i64 i (1 : Int)) ∧ CallKind.normal = CallKind.normal ∧ TodoOk (ren 1 [(1, 1)]) bH11 bH11 ∧ off = off ∧ n = n ∧ Value.string (ByteArray.mk (Array.mk [])) = Value.string (ByteArray.mk (Array.mk [])) ∧ sizeD (encB cs off n) = sizeD (encB cs off n) ∧ off = off ∧ n = n ∧ off = off ∧ n = n ∧ (↑n : Int) = (↑n : Int) ∧ sizeD (encB cs off n) = sizeD (encB cs off n) ∧ Value.string (ByteArray.mk (Array.mk [])) = Value.string (ByteArray.mk (Array.mk [])) ∧ Value.string ((List.brecOn.go (motive := fun x => ByteArray → ByteArray) (encL cs off n) (List.foldl._f fun r v => ByteArray.push r (UInt8.ofNat (match v with | Value.int k n => Int.toNat n | x => (0 : Nat))))).1 ByteArray.empty) = Value.string ((List.brecOn.go (motive := fun x => ByteArray → ByteArray) (encL cs off n) (List.foldl._f fun r v => ByteArray.push r (UInt8.ofNat (match v with | Value.int k n => Int.toNat n | x => (0 : Nat))))).1 ByteArray.empty) ∧ Value.string ((List.brecOn.go (motive := fun x => ByteArray → ByteArray) (encL cs off n) (List.foldl._f fun r v => ByteArray.push r (UInt8.ofNat (match v with | Value.int k n => Int.toNat n | x => (0 : Nat))))).1 ByteArray.empty) = Value.string ((List.brecOn.go (motive := fun x => ByteArray → ByteArray) (encL cs off n) (List.foldl._f fun r v => ByteArray.push r (UInt8.ofNat (match v with | Value.int k n => Int.toNat n | x => (0 : Nat))))).1 ByteArray.empty) ∧ ari BinOp.add IntKind.i64 i (1 : Int) = ari BinOp.add IntKind.i64 i (1 : Int) ∧ decide ((↑n : Int) > (200 : Int)) = decide ((↑n : Int) > (200 : Int)) ∧ off = off ∧ n = n ∧ Value.string ((List.brecOn.go (motive := fun x => ByteArray → ByteArray) (encL cs off n) (List.foldl._f fun r v => ByteArray.push r (UInt8.ofNat (match v with | Value.int k n => Int.toNat n | x => (0 : Nat))))).1 ByteArray.empty) = Value.string ((List.brecOn.go (motive := fun x => ByteArray → ByteArray) (encL cs off n) (List.foldl._f fun r v => ByteArray.push r (UInt8.ofNat (match v with | Value.int k n => Int.toNat n | x => (0 : Nat))))).1 ByteArray.empty) ∧ (↑(sizeD (encB cs off n)) : Int) = (↑(sizeD (encB cs off n)) : Int) ∧ (↑n : Int) = (↑n : Int) ∧ mayV cs off n = mayV cs off n ∧ ((↑(sizeD (encB cs off n)) : Int) != (↑n : Int)) = ((↑(sizeD (encB cs off n)) : Int) != (↑n : Int)) ∧ Value.string ((List.brecOn.go (motive := fun x => ByteArray → ByteArray) (encL cs off n) (List.foldl._f fun r v => ByteArray.push r (UInt8.ofNat (match v with | Value.int k n => Int.toNat n | x => (0 : Nat))))).1 ByteArray.empty) = Value.string ((List.brecOn.go (motive := fun x => ByteArray → ByteArray) (encL cs off n) (List.foldl._f fun r v => ByteArray.push r (UInt8.ofNat (match v with | Value.int k n => Int.toNat n | x => (0 : Nat))))).1 ByteArray.empty) ∧ sizeD (encB cs off n) = sizeD (encB cs off n) ∧ sizeD (encB cs off n) = sizeD (encB cs off n) ∧ Value.string ((List.brecOn.go (motive := fun x => ByteArray → ByteArray) (encL cs off n) (List.foldl._f fun r v => ByteArray.push r (UInt8.ofNat (match v with | Value.int k n => Int.toNat n | x => (0 : Nat))))).1 ByteArray.empty) = Value.string ((List.brecOn.go (motive := fun x => ByteArray → ByteArray) (encL cs off n) (List.foldl._f fun r v => ByteArray.push r (UInt8.ofNat (match v with | Value.int k n => Int.toNat n | x => (0 : Nat))))).1 ByteArray.empty) ∧ sizeD (encB cs off n) = sizeD (encB cs off n) ∧ off = off ∧ n = n ∧ ty = ty ∧ cs = cs ∧ (41 : TypeId) = (41 : TypeId) ∧ rowD (encB cs off n) = rowD (encB cs off n) ∧ True)) ∧ (decide (i < (↑n : Int)) = false → true = r)) := by kernel_rfl
theorem bk_t4 (off n : Nat) (cs : Array Value) (ty : TypeId) (b : ByteArray) (i : Int) (r : Bool) (Q : Int → Prop) (Q2 : Int → Int → ByteArray → Nat → Array Value → Prop) : (stepT (Eh true true).go (run (Eh true true) 1000) 1 (headF (b11F true off n cs ty b i)) (b11M true off n cs ty b)).vc (boolR r) (nB true true off n cs ty b Q Q2) =
    ((decide (i < (↑n : Int)) = true → (((0 : Int) ≤ i ∧ i < (↑(sizeD (encB cs off n)) : Int)) ∧ True) ∧ (IsInt IntKind.u8 (rowD (encB cs off n)) ((0 : Nat) + Int.toNat i * 5) ∧ IsInt IntKind.u8 (rowD (encB cs off n)) ((0 : Nat) + Int.toNat i * 5 + 1) ∧ IsInt IntKind.u8 (rowD (encB cs off n)) ((0 : Nat) + Int.toNat i * 5 + 2) ∧ IsInt IntKind.u8 (rowD (encB cs off n)) ((0 : Nat) + Int.toNat i * 5 + 3) ∧ IsInt IntKind.u16 (rowD (encB cs off n)) ((0 : Nat) + Int.toNat i * 5 + 4) ∧ True) ∧ (((0 : Int) ≤ i ∧ i < (↑n : Int)) ∧ True) ∧ (IsInt IntKind.u8 cs (off + Int.toNat i * 5) ∧ IsInt IntKind.u8 cs (off + Int.toNat i * 5 + 1) ∧ IsInt IntKind.u8 cs (off + Int.toNat i * 5 + 2) ∧ IsInt IntKind.u8 cs (off + Int.toNat i * 5 + 3) ∧ IsInt IntKind.u16 cs (off + Int.toNat i * 5 + 4) ∧ True) ∧ ((!(intAt (rowD (encB cs off n)) ((0 : Nat) + Int.toNat i * 5) == intAt cs (off + Int.toNat i * 5) && (intAt (rowD (encB cs off n)) ((0 : Nat) + Int.toNat i * 5 + 1) == intAt cs (off + Int.toNat i * 5 + 1) && (intAt (rowD (encB cs off n)) ((0 : Nat) + Int.toNat i * 5 + 2) == intAt cs (off + Int.toNat i * 5 + 2) && (intAt (rowD (encB cs off n)) ((0 : Nat) + Int.toNat i * 5 + 3) == intAt cs (off + Int.toNat i * 5 + 3) && intAt (rowD (encB cs off n)) ((0 : Nat) + Int.toNat i * 5 + 4) == intAt cs (off + Int.toNat i * 5 + 4)))))) = true → false = r) ∧ ((!(intAt (rowD (encB cs off n)) ((0 : Nat) + Int.toNat i * 5) == intAt cs (off + Int.toNat i * 5) && (intAt (rowD (encB cs off n)) ((0 : Nat) + Int.toNat i * 5 + 1) == intAt cs (off + Int.toNat i * 5 + 1) && (intAt (rowD (encB cs off n)) ((0 : Nat) + Int.toNat i * 5 + 2) == intAt cs (off + Int.toNat i * 5 + 2) && (intAt (rowD (encB cs off n)) ((0 : Nat) + Int.toNat i * 5 + 3) == intAt cs (off + Int.toNat i * 5 + 3) && intAt (rowD (encB cs off n)) ((0 : Nat) + Int.toNat i * 5 + 4) == intAt cs (off + Int.toNat i * 5 + 4)))))) = false → Q (ari BinOp.add IntKind.i64 i (1 : Int)) ∧ CallKind.normal = CallKind.normal ∧ TodoOk (ren 1 [(1, 1)]) bH11 bH11 ∧ off = off ∧ n = n ∧ Value.string b = Value.string b ∧ sizeD (encB cs off n) = sizeD (encB cs off n) ∧ off = off ∧ n = n ∧ off = off ∧ n = n ∧ (↑n : Int) = (↑n : Int) ∧ sizeD (encB cs off n) = sizeD (encB cs off n) ∧ Value.string b = Value.string b ∧ Value.string ((List.brecOn.go (motive := fun x => ByteArray → ByteArray) (encL cs off n) (List.foldl._f fun r v => ByteArray.push r (UInt8.ofNat (match v with | Value.int k n => Int.toNat n | x => (0 : Nat))))).1 ByteArray.empty) = Value.string ((List.brecOn.go (motive := fun x => ByteArray → ByteArray) (encL cs off n) (List.foldl._f fun r v => ByteArray.push r (UInt8.ofNat (match v with | Value.int k n => Int.toNat n | x => (0 : Nat))))).1 ByteArray.empty) ∧ Value.string ((List.brecOn.go (motive := fun x => ByteArray → ByteArray) (encL cs off n) (List.foldl._f fun r v => ByteArray.push r (UInt8.ofNat (match v with | Value.int k n => Int.toNat n | x => (0 : Nat))))).1 ByteArray.empty) = Value.string ((List.brecOn.go (motive := fun x => ByteArray → ByteArray) (encL cs off n) (List.foldl._f fun r v => ByteArray.push r (UInt8.ofNat (match v with | Value.int k n => Int.toNat n | x => (0 : Nat))))).1 ByteArray.empty) ∧ ari BinOp.add IntKind.i64 i (1 : Int) = ari BinOp.add IntKind.i64 i (1 : Int) ∧ decide ((↑n : Int) > (200 : Int)) = decide ((↑n : Int) > (200 : Int)) ∧ off = off ∧ n = n ∧ decide (((↑(ByteArray.size b) : Int)) > (1000 : Int)) = decide (((↑(ByteArray.size b) : Int)) > (1000 : Int)) ∧ Value.string ((List.brecOn.go (motive := fun x => ByteArray → ByteArray) (encL cs off n) (List.foldl._f fun r v => ByteArray.push r (UInt8.ofNat (match v with | Value.int k n => Int.toNat n | x => (0 : Nat))))).1 ByteArray.empty) = Value.string ((List.brecOn.go (motive := fun x => ByteArray → ByteArray) (encL cs off n) (List.foldl._f fun r v => ByteArray.push r (UInt8.ofNat (match v with | Value.int k n => Int.toNat n | x => (0 : Nat))))).1 ByteArray.empty) ∧ (↑(sizeD (encB cs off n)) : Int) = (↑(sizeD (encB cs off n)) : Int) ∧ (↑n : Int) = (↑n : Int) ∧ mayV cs off n = mayV cs off n ∧ ((↑(sizeD (encB cs off n)) : Int) != (↑n : Int)) = ((↑(sizeD (encB cs off n)) : Int) != (↑n : Int)) ∧ Value.string ((List.brecOn.go (motive := fun x => ByteArray → ByteArray) (encL cs off n) (List.foldl._f fun r v => ByteArray.push r (UInt8.ofNat (match v with | Value.int k n => Int.toNat n | x => (0 : Nat))))).1 ByteArray.empty) = Value.string ((List.brecOn.go (motive := fun x => ByteArray → ByteArray) (encL cs off n) (List.foldl._f fun r v => ByteArray.push r (UInt8.ofNat (match v with | Value.int k n => Int.toNat n | x => (0 : Nat))))).1 ByteArray.empty) ∧ (((↑(ByteArray.size b) : Int)) = (↑(ByteArray.size b) : Int)) ∧ sizeD (encB cs off n) = sizeD (encB cs off n) ∧ sizeD (encB cs off n) = sizeD (encB cs off n) ∧ Value.string ((List.brecOn.go (motive := fun x => ByteArray → ByteArray) (encL cs off n) (List.foldl._f fun r v => ByteArray.push r (UInt8.ofNat (match v with | Value.int k n => Int.toNat n | x => (0 : Nat))))).1 ByteArray.empty) = Value.string ((List.brecOn.go (motive := fun x => ByteArray → ByteArray) (encL cs off n) (List.foldl._f fun r v => ByteArray.push r (UInt8.ofNat (match v with | Value.int k n => Int.toNat n | x => (0 : Nat))))).1 ByteArray.empty) ∧ sizeD (encB cs off n) = sizeD (encB cs off n) ∧ off = off ∧ n = n ∧ ty = ty ∧ cs = cs ∧ (41 : TypeId) = (41 : TypeId) ∧ rowD (encB cs off n) = rowD (encB cs off n) ∧ True)) ∧ (decide (i < (↑n : Int)) = false → (ByteArray.size b ≠ (0 : Nat) ∧ ByteArray.size b < (9223372036854775807 : Nat) ∧ True) ∧ (decOk b = true → (InsOk (rowD b) (0 : Nat) (sizeD b) ∧ True) ∧ (mayV (rowD b) (0 : Nat) (sizeD b) = true → Q2 (0 : Int) (0 : Int) (encB (rowD b) (0 : Nat) (sizeD b)) (sizeD b) (rowD b) ∧ CallKind.normal = CallKind.normal ∧ TodoOk (ren 1 [(1, 2)]) bT20 bT20 ∧ Value.string b = Value.string b ∧ (0 : Int) = (0 : Int) ∧ Value.string ((List.brecOn.go (motive := fun x => ByteArray → ByteArray) (encL (rowD b) (0 : Nat) (sizeD b)) (List.foldl._f fun r v => ByteArray.push r (UInt8.ofNat (match v with | Value.int k n => Int.toNat n | x => (0 : Nat))))).1 ByteArray.empty) = Value.string ((List.brecOn.go (motive := fun x => ByteArray → ByteArray) (encL (rowD b) (0 : Nat) (sizeD b)) (List.foldl._f fun r v => ByteArray.push r (UInt8.ofNat (match v with | Value.int k n => Int.toNat n | x => (0 : Nat))))).1 ByteArray.empty) ∧ sizeD b = sizeD b ∧ (0 : Int) = (0 : Int) ∧ (41 : TypeId) = (41 : TypeId) ∧ rowD b = rowD b ∧ True) ∧ (mayV (rowD b) (0 : Nat) (sizeD b) = false → Q2 (0 : Int) (3 : Int) ByteArray.empty (sizeD b) (rowD b) ∧ CallKind.normal = CallKind.normal ∧ TodoOk (ren 1 [(1, 2)]) bT20 bT20 ∧ Value.string b = Value.string b ∧ (3 : Int) = (3 : Int) ∧ Value.string (ByteArray.mk (Array.mk [])) = Value.string (ByteArray.mk (Array.mk [])) ∧ sizeD b = sizeD b ∧ (0 : Int) = (0 : Int) ∧ (41 : TypeId) = (41 : TypeId) ∧ rowD b = rowD b ∧ True)) ∧ (decOk b = false → true = r))) := by kernel_rfl
theorem bk_u (b : ByteArray) (i e : Int) (s : ByteArray) (k : Nat) (cs : Array Value) (r : Bool) (Q : Int → Int → ByteArray → Nat → Array Value → Prop) : (stepT (Eh true true).go (run (Eh true true) 1000) 1 (headF (b20F b i e s k)) (b20M cs)).vc (boolR r) (n20 true b Q) =
    ((decide (i < (↑k : Int)) = true → (((0 : Int) ≤ i ∧ i < (↑k : Int)) ∧ True) ∧ (IsInt IntKind.u8 cs ((0 : Nat) + Int.toNat i * 5) ∧ True) ∧ (((intAt cs ((0 : Nat) + Int.toNat i * 5) == (5 : Int)) == false) = true → (((0 : Int) ≤ i ∧ i < (↑k : Int)) ∧ True) ∧ (IsInt IntKind.u8 cs ((0 : Nat) + Int.toNat i * 5) ∧ True) ∧ (((intAt cs ((0 : Nat) + Int.toNat i * 5) == (6 : Int)) == true) = true → (((0 : Int) ≤ i ∧ i < (↑k : Int)) ∧ True) ∧ (IsInt IntKind.u16 cs ((0 : Nat) + Int.toNat i * 5 + 4) ∧ True) ∧ ((decide (IntKind.wrap IntKind.i64 (intAt cs ((0 : Nat) + Int.toNat i * 5 + 4)) ≥ (↑k : Int)) == false) = true → (((0 : Int) ≤ i ∧ i < (↑k : Int)) ∧ True) ∧ (IsInt IntKind.u8 cs ((0 : Nat) + Int.toNat i * 5 + 1) ∧ True) ∧ ((decide (intAt cs ((0 : Nat) + Int.toNat i * 5 + 1) ≥ (8 : Int)) == false) = true → (((0 : Int) ≤ i ∧ i < (↑k : Int)) ∧ True) ∧ (IsInt IntKind.u8 cs ((0 : Nat) + Int.toNat i * 5 + 2) ∧ True) ∧ ((decide (intAt cs ((0 : Nat) + Int.toNat i * 5 + 2) ≥ (8 : Int)) == false) = true → (((0 : Int) ≤ i ∧ i < (↑k : Int)) ∧ True) ∧ (IsInt IntKind.u8 cs ((0 : Nat) + Int.toNat i * 5 + 3) ∧ True) ∧ (decide (intAt cs ((0 : Nat) + Int.toNat i * 5 + 3) ≥ (8 : Int)) = true → false = r) ∧ (decide (intAt cs ((0 : Nat) + Int.toNat i * 5 + 3) ≥ (8 : Int)) = false → Q (ari BinOp.add IntKind.i64 i (1 : Int)) e s k cs ∧ CallKind.normal = CallKind.normal ∧ TodoOk (ren 1 [(1, 1)]) bH20 bH20 ∧ Value.string b = Value.string b ∧ e = e ∧ Value.string s = Value.string s ∧ k = k ∧ ari BinOp.add IntKind.i64 i (1 : Int) = ari BinOp.add IntKind.i64 i (1 : Int) ∧ (41 : TypeId) = (41 : TypeId) ∧ cs = cs ∧ True)) ∧ ((decide (intAt cs ((0 : Nat) + Int.toNat i * 5 + 2) ≥ (8 : Int)) == false) = false → false = r)) ∧ ((decide (intAt cs ((0 : Nat) + Int.toNat i * 5 + 1) ≥ (8 : Int)) == false) = false → false = r)) ∧ ((decide (IntKind.wrap IntKind.i64 (intAt cs ((0 : Nat) + Int.toNat i * 5 + 4)) ≥ (↑k : Int)) == false) = false → false = r)) ∧ (((intAt cs ((0 : Nat) + Int.toNat i * 5) == (6 : Int)) == true) = false → (((0 : Int) ≤ i ∧ i < (↑k : Int)) ∧ True) ∧ (IsInt IntKind.u8 cs ((0 : Nat) + Int.toNat i * 5 + 1) ∧ True) ∧ ((decide (intAt cs ((0 : Nat) + Int.toNat i * 5 + 1) ≥ (8 : Int)) == false) = true → (((0 : Int) ≤ i ∧ i < (↑k : Int)) ∧ True) ∧ (IsInt IntKind.u8 cs ((0 : Nat) + Int.toNat i * 5 + 2) ∧ True) ∧ ((decide (intAt cs ((0 : Nat) + Int.toNat i * 5 + 2) ≥ (8 : Int)) == false) = true → (((0 : Int) ≤ i ∧ i < (↑k : Int)) ∧ True) ∧ (IsInt IntKind.u8 cs ((0 : Nat) + Int.toNat i * 5 + 3) ∧ True) ∧ (decide (intAt cs ((0 : Nat) + Int.toNat i * 5 + 3) ≥ (8 : Int)) = true → false = r) ∧ (decide (intAt cs ((0 : Nat) + Int.toNat i * 5 + 3) ≥ (8 : Int)) = false → Q (ari BinOp.add IntKind.i64 i (1 : Int)) e s k cs ∧ CallKind.normal = CallKind.normal ∧ TodoOk (ren 1 [(1, 1)]) bH20 bH20 ∧ Value.string b = Value.string b ∧ e = e ∧ Value.string s = Value.string s ∧ k = k ∧ ari BinOp.add IntKind.i64 i (1 : Int) = ari BinOp.add IntKind.i64 i (1 : Int) ∧ (41 : TypeId) = (41 : TypeId) ∧ cs = cs ∧ True)) ∧ ((decide (intAt cs ((0 : Nat) + Int.toNat i * 5 + 2) ≥ (8 : Int)) == false) = false → false = r)) ∧ ((decide (intAt cs ((0 : Nat) + Int.toNat i * 5 + 1) ≥ (8 : Int)) == false) = false → false = r))) ∧ (((intAt cs ((0 : Nat) + Int.toNat i * 5) == (5 : Int)) == false) = false → (((0 : Int) ≤ i ∧ i < (↑k : Int)) ∧ True) ∧ (IsInt IntKind.u16 cs ((0 : Nat) + Int.toNat i * 5 + 4) ∧ True) ∧ ((decide (IntKind.wrap IntKind.i64 (intAt cs ((0 : Nat) + Int.toNat i * 5 + 4)) ≥ (↑k : Int)) == false) = true → (((0 : Int) ≤ i ∧ i < (↑k : Int)) ∧ True) ∧ (IsInt IntKind.u8 cs ((0 : Nat) + Int.toNat i * 5 + 1) ∧ True) ∧ ((decide (intAt cs ((0 : Nat) + Int.toNat i * 5 + 1) ≥ (8 : Int)) == false) = true → (((0 : Int) ≤ i ∧ i < (↑k : Int)) ∧ True) ∧ (IsInt IntKind.u8 cs ((0 : Nat) + Int.toNat i * 5 + 2) ∧ True) ∧ ((decide (intAt cs ((0 : Nat) + Int.toNat i * 5 + 2) ≥ (8 : Int)) == false) = true → (((0 : Int) ≤ i ∧ i < (↑k : Int)) ∧ True) ∧ (IsInt IntKind.u8 cs ((0 : Nat) + Int.toNat i * 5 + 3) ∧ True) ∧ (decide (intAt cs ((0 : Nat) + Int.toNat i * 5 + 3) ≥ (8 : Int)) = true → false = r) ∧ (decide (intAt cs ((0 : Nat) + Int.toNat i * 5 + 3) ≥ (8 : Int)) = false → Q (ari BinOp.add IntKind.i64 i (1 : Int)) e s k cs ∧ CallKind.normal = CallKind.normal ∧ TodoOk (ren 1 [(1, 1)]) bH20 bH20 ∧ Value.string b = Value.string b ∧ e = e ∧ Value.string s = Value.string s ∧ k = k ∧ ari BinOp.add IntKind.i64 i (1 : Int) = ari BinOp.add IntKind.i64 i (1 : Int) ∧ (41 : TypeId) = (41 : TypeId) ∧ cs = cs ∧ True)) ∧ ((decide (intAt cs ((0 : Nat) + Int.toNat i * 5 + 2) ≥ (8 : Int)) == false) = false → false = r)) ∧ ((decide (intAt cs ((0 : Nat) + Int.toNat i * 5 + 1) ≥ (8 : Int)) == false) = false → false = r)) ∧ ((decide (IntKind.wrap IntKind.i64 (intAt cs ((0 : Nat) + Int.toNat i * 5 + 4)) ≥ (↑k : Int)) == false) = false → false = r))) ∧ (decide (i < (↑k : Int)) = false → (((e == (0 : Int)) == true) = true → (((match mkSB (false && false) (ByteArray.toList s == ByteArray.toList b) with | SB.l b => b | SB.o b => b) == true) = true → true = r) ∧ (((match mkSB (false && false) (ByteArray.toList s == ByteArray.toList b) with | SB.l b => b | SB.o b => b) == true) = false → false = r)) ∧ (((e == (0 : Int)) == true) = false → false = r))) := by kernel_rfl
end Go.Proofs.Ytaagmmljhgabfaa
/- Of code: CodeBack's runs end with true. No condition. -/
namespace Go.Proofs.Ytaagmmljhgabfaa
set_option linter.unusedSectionVars false
set_option maxRecDepth 100000
theorem Eh_ok (a c : Bool) : EnvOk (Eh a c) := EnvOk.with E0_ok _ _ conE_ok
theorem bT11_1 : TodoOk (ren 1 [(1, 1)]) bT11 bT11 := TodoOk.same (by kernel_rfl)
theorem bH11_1 : TodoOk (ren 1 [(1, 1)]) bH11 bH11 := TodoOk.same (by kernel_rfl)
theorem bT20_1 : TodoOk (ren 1 [(1, 1)]) bT20 bT20 := TodoOk.same (by kernel_rfl)
theorem bT20_2 : TodoOk (ren 1 [(1, 2)]) bT20 bT20 := TodoOk.same (by kernel_rfl)
theorem bH20_1 : TodoOk (ren 1 [(1, 1)]) bH20 bH20 := TodoOk.same (by kernel_rfl)
theorem b_facts {b : ByteArray} (hd : decOk b = true) : InsOk (rowD b) 0 (sizeD b) ∧ mayV (rowD b) 0 (sizeD b) = true ∧ encB (rowD b) 0 (sizeD b) = b ∧ sizeD b ≤ 64 := by
  unfold decOk at hd
  rw [Bool.and_eq_true, decide_eq_true_eq] at hd
  obtain ⟨⟨h1, h2⟩, h3⟩ := hd
  have hs : sizeD b = b.size / 6 := rfl
  exact ⟨dec_insOk b (by omega), h3, back_enc (by omega), (mayV_iff.1 h3).1⟩
theorem sub_good {h : Bool} {A : SV → SMem → Prop} {π : List (Nat × Nat)} {fs0 fs : List SFr} {m0 m : SMem} (hb : subOk 1 π ((cond h headF id) fs0) m0 fs m) (hg : Good Try.prog A 1 (headF fs0) m0) : Good Try.prog A 1 fs m := by
  cases h with
  | true => exact Good.of_sub hb hg
  | false => exact Good.of_sub hb (Good.head hg)
theorem n20_good {h : Bool} {b : ByteArray} {A : SV → SMem → Prop} {Q : Int → Int → ByteArray → Nat → Array Value → Prop} (hg : ∀ i e s k cs, Q i e s k cs → Good Try.prog A 1 (headF (b20F b i e s k)) (b20M cs)) {fs : List SFr} {m : SMem} (hb : n20 h b Q fs m) : Good Try.prog A 1 fs m := by
  unfold n20 at hb
  split at hb
  · split at hb
    · split at hb
      · exact sub_good hb.2 (hg _ _ _ _ _ hb.1)
      · exact hb.elim
    · exact hb.elim
  · exact hb.elim
theorem nB_good {h w : Bool} {off n : Nat} {cs : Array Value} {ty : TypeId} {b : ByteArray} {A : SV → SMem → Prop} {Q : Int → Prop} {Q2 : Int → Int → ByteArray → Nat → Array Value → Prop} (hg : ∀ i, Q i → Good Try.prog A 1 (headF (b11F w off n cs ty b i)) (b11M w off n cs ty b))
    (hg2 : ∀ i e s k cs, Q2 i e s k cs → Good Try.prog A 1 (headF (b20F b i e s k)) (b20M cs)) {fs : List SFr} {m : SMem} (hb : nB h w off n cs ty b Q Q2 fs m) : Good Try.prog A 1 fs m := by
  unfold nB at hb
  split at hb
  · unfold n11 at hb
    split at hb
    · split at hb
      · exact sub_good hb.2 (hg _ hb.1)
      · exact hb.elim
    · exact hb.elim
  · exact n20_good hg2 hb
/-- At the second loop's beginning. -/
def Q20 (b : ByteArray) (i e : Int) (s : ByteArray) (k : Nat) (cs : Array Value) : Prop := i = 0 ∧ e = 0 ∧ s = b ∧ k = sizeD b ∧ cs = rowD b ∧ decOk b = true
theorem same_bytes (b : ByteArray) : ((match mkSB (false && false) (ByteArray.toList b == ByteArray.toList b) with | SB.l b => b | SB.o b => b) == true) = true := by
  show ((b.toList == b.toList) == true) = true
  simp
theorem u_round {b : ByteArray} (hd : decOk b = true) : ∀ (K j : Nat), sizeD b - j < K → j ≤ sizeD b → Good Try.prog (boolR true) 1 (headF (b20F b (j : Int) 0 b (sizeD b))) (b20M (rowD b)) := by
  obtain ⟨hI, hm, hE, hk64⟩ := b_facts hd
  intro K
  induction K with
  | zero => intro j h; omega
  | succ K ih =>
    intro j hk hj
    refine past_vc (Eh_ok true true) 1000 (bk_u b j 0 b (sizeD b) (rowD b) true (fun i' e s k cs => ∃ t : Nat, i' = t ∧ sizeD b - t < K ∧ t ≤ sizeD b ∧ e = 0 ∧ s = b ∧ k = sizeD b ∧ cs = rowD b)) ?_ (fun _ _ h => h)
      (fun fs m hb => n20_good (fun i' e s k cs ⟨t, e1, k1, k2, k3, k4, k5, k6⟩ => by rw [e1, k3, k4, k5, k6]; exact ih t k1 k2) hb)
    refine ⟨fun h => ?_, fun h => ?_⟩
    · have hlt : j < sizeD b := by have := of_decide_eq_true h; omega
      obtain ⟨⟨i1, i2, i3, i4, i5⟩, r1, r2, r3, r4, r5⟩ := hI.2 j hlt
      have ho := (mayV_iff.1 hm).2 j hlt
      have eA : ari BinOp.add IntKind.i64 (j : Int) 1 = ((j + 1 : Nat) : Int) := by rw [ari_add, i64_nat (show j < 9223372036854775807 by omega)]
      rw [Int.toNat_natCast, eA]
      have hyes : ∃ t : Nat, ((j + 1 : Nat) : Int) = t ∧ sizeD b - t < K ∧ t ≤ sizeD b ∧ (0 : Int) = 0 ∧ b = b ∧ sizeD b = sizeD b ∧ rowD b = rowD b := ⟨j + 1, rfl, by omega, by omega, rfl, rfl, rfl, rfl⟩
      generalize (∃ t : Nat, ((j + 1 : Nat) : Int) = t ∧ sizeD b - t < K ∧ t ≤ sizeD b ∧ (0 : Int) = 0 ∧ b = b ∧ sizeD b = sizeD b ∧ rowD b = rowD b) = Y at hyes ⊢
      rw [Ins.okN_iff] at ho
      simp only [ins] at ho r1 r2 r3 r4 r5
      generalize sizeD b = k at ho hlt ⊢
      generalize hcs : rowD b = cs at i1 i2 i3 i4 i5 ho r1 r2 r3 r4 r5 ⊢
      clear ih hI hm hE
      generalize intAt cs (0 + j * 5) = xo at ho r1 r2 r3 r4 r5 ⊢
      generalize intAt cs (0 + j * 5 + 1) = xa at ho r1 r2 r3 r4 r5 ⊢
      generalize intAt cs (0 + j * 5 + 2) = xb at ho r1 r2 r3 r4 r5 ⊢
      generalize intAt cs (0 + j * 5 + 3) = xc at ho r1 r2 r3 r4 r5 ⊢
      generalize intAt cs (0 + j * 5 + 4) = xn at ho r1 r2 r3 r4 r5 ⊢
      rw [Go.IntWalk.i64_in xn (by omega)]
      repeat' first | apply And.intro | (intro hh)
      all_goals first | exact trivial | exact bH20_1 | exact rfl | assumption | skip
      all_goals first | omega | (exfalso; simp at *; omega) | skip
    · have e : j = sizeD b := by have := of_decide_eq_false h; omega
      exact ⟨fun _ => ⟨fun _ => rfl, fun h => Bool.noConfusion ((same_bytes b).symm.trans h)⟩, fun h => by cases h⟩
theorem u_good {b : ByteArray} (i e : Int) (s : ByteArray) (k : Nat) (cs : Array Value) (h : Q20 b i e s k cs) : Good Try.prog (boolR true) 1 (headF (b20F b i e s k)) (b20M cs) := by
  obtain ⟨rfl, rfl, rfl, rfl, rfl, hd⟩ := h
  exact u_round hd (sizeD s + 1) 0 (by omega) (by omega)
theorem tail20 {b : ByteArray} (hb0 : b.size ≠ 0) (hbl : b.size < 9223372036854775807) {X Y : Prop} (hX : X) :
    (ByteArray.size b ≠ 0 ∧ ByteArray.size b < 9223372036854775807 ∧ True) ∧ (decOk b = true → (InsOk (rowD b) 0 (sizeD b) ∧ True) ∧ (mayV (rowD b) 0 (sizeD b) = true → Q20 b 0 0 (encB (rowD b) 0 (sizeD b)) (sizeD b) (rowD b) ∧ X) ∧ (mayV (rowD b) 0 (sizeD b) = false → Y)) ∧ (decOk b = false → true = true) := by
  refine ⟨⟨hb0, hbl, trivial⟩, ⟨fun hd => ?_, fun _ => rfl⟩⟩
  obtain ⟨f1, f2, f3, _⟩ := b_facts hd
  refine ⟨⟨f1, trivial⟩, ⟨fun _ => ?_, fun h => ?_⟩⟩
  · rw [f3]
    exact ⟨⟨rfl, rfl, rfl, rfl, rfl, hd⟩, hX⟩
  · rw [f2] at h; cases h
theorem s2_good {b : ByteArray} (hb0 : b.size ≠ 0) : Good Try.prog (boolR true) 1 (backC e0V (strV b)) M1 := by
  refine run_vc (Eh_ok false true) 1000 (bk_s2 b true (Q20 b)) ?_ (fun _ _ h => h) (fun fs m hb => n20_good u_good hb)
  refine ⟨fun _ => rfl, fun h => ?_⟩
  have hbl : b.size < 9223372036854775807 := by have := of_decide_eq_false h; omega
  refine tail20 hb0 hbl ?_
  repeat' first | exact trivial | exact bT20_1 | exact bT20_2 | apply And.intro | exact rfl
section
variable (w : Bool) (off n : Nat) (cs : Array Value) (ty : TypeId) (b : ByteArray) (hI : InsOk cs off n) (hn : n ≠ 0) (hm : mayV cs off n = true) (hb0 : b.size ≠ 0)
include hI hn hm
omit hn hm in
theorem t_eq {i : Nat} (hi : i < n) : (!(intAt (rowD (encB cs off n)) (0 + i * 5) == intAt cs (off + i * 5) && (intAt (rowD (encB cs off n)) (0 + i * 5 + 1) == intAt cs (off + i * 5 + 1) && (intAt (rowD (encB cs off n)) (0 + i * 5 + 2) == intAt cs (off + i * 5 + 2) && (intAt (rowD (encB cs off n)) (0 + i * 5 + 3) == intAt cs (off + i * 5 + 3) && intAt (rowD (encB cs off n)) (0 + i * 5 + 4) == intAt cs (off + i * 5 + 4)))))) = false := by
  have h := enc_dec hI hi
  have e : rowD (encB cs off n) = (decL (encB cs off n) n).toArray := by unfold rowD; rw [enc_div]
  rw [← e] at h
  unfold ins at h
  injection h with h1 h2 h3 h4 h5
  rw [h1, h2, h3, h4, h5]
  simp
omit hn hm in
theorem t_at {i : Nat} (hi : i < n) : InsAt (rowD (encB cs off n)) (0 + i * 5) := by
  have e : rowD (encB cs off n) = (decL (encB cs off n) n).toArray := by unfold rowD; rw [enc_div]
  rw [e]
  exact (ins_dec (encB cs off n) hi).2
theorem t3_round (hbl : b.size < 9223372036854775807) : ∀ (K j : Nat), n - j < K → j ≤ n → Good Try.prog (boolR true) 1 (headF (b11F false off n cs ty b (j : Int))) (b11M false off n cs ty b) := by
  intro K
  induction K with
  | zero => intro j h; omega
  | succ K ih =>
    intro j hk hj
    refine past_vc (Eh_ok true false) 1000 (bk_t3 off n cs ty b j true (fun i' => ∃ t : Nat, i' = t ∧ n - t < K ∧ t ≤ n) (Q20 b)) ?_ (fun _ _ h => h)
      (fun fs m hb => nB_good (fun i' ⟨t, e1, k1, k2⟩ => by rw [e1]; exact ih t k1 k2) u_good hb)
    have hN := (mayV_iff.1 hm).1
    refine ⟨fun h => ?_, fun h => rfl⟩
    have hlt : j < n := by have := of_decide_eq_true h; omega
    obtain ⟨⟨i1, i2, i3, i4, i5⟩, _⟩ := hI.2 j hlt
    obtain ⟨j1, j2, j3, j4, j5⟩ := t_at off n cs hI hlt
    have eA : ari BinOp.add IntKind.i64 (j : Int) 1 = ((j + 1 : Nat) : Int) := by rw [ari_add, i64_nat (show j < 9223372036854775807 by omega)]
    have hs : sizeD (encB cs off n) = n := enc_div
    rw [Int.toNat_natCast, eA, t_eq off n cs hI hlt, hs]
    refine ⟨⟨⟨by omega, by omega⟩, trivial⟩, ⟨j1, j2, j3, j4, j5, trivial⟩, ⟨⟨by omega, by omega⟩, trivial⟩, ⟨i1, i2, i3, i4, i5, trivial⟩, ⟨fun h => (by cases h), fun _ => ⟨⟨j + 1, rfl, by omega, by omega⟩, ?_⟩⟩⟩
    repeat' first | exact trivial | exact bH11_1 | apply And.intro | exact rfl
include hb0 in
theorem t4_round (hbl : b.size < 9223372036854775807) : ∀ (K j : Nat), n - j < K → j ≤ n → Good Try.prog (boolR true) 1 (headF (b11F true off n cs ty b (j : Int))) (b11M true off n cs ty b) := by
  intro K
  induction K with
  | zero => intro j h; omega
  | succ K ih =>
    intro j hk hj
    refine past_vc (Eh_ok true true) 1000 (bk_t4 off n cs ty b j true (fun i' => ∃ t : Nat, i' = t ∧ n - t < K ∧ t ≤ n) (Q20 b)) ?_ (fun _ _ h => h)
      (fun fs m hb => nB_good (fun i' ⟨t, e1, k1, k2⟩ => by rw [e1]; exact ih t k1 k2) u_good hb)
    have hN := (mayV_iff.1 hm).1
    refine ⟨fun h => ?_, fun h => ?_⟩
    · have hlt : j < n := by have := of_decide_eq_true h; omega
      obtain ⟨⟨i1, i2, i3, i4, i5⟩, _⟩ := hI.2 j hlt
      obtain ⟨j1, j2, j3, j4, j5⟩ := t_at off n cs hI hlt
      have eA : ari BinOp.add IntKind.i64 (j : Int) 1 = ((j + 1 : Nat) : Int) := by rw [ari_add, i64_nat (show j < 9223372036854775807 by omega)]
      have hs : sizeD (encB cs off n) = n := enc_div
      rw [Int.toNat_natCast, eA, t_eq off n cs hI hlt, hs]
      refine ⟨⟨⟨by omega, by omega⟩, trivial⟩, ⟨j1, j2, j3, j4, j5, trivial⟩, ⟨⟨by omega, by omega⟩, trivial⟩, ⟨i1, i2, i3, i4, i5, trivial⟩, ⟨fun h => (by cases h), fun _ => ⟨⟨j + 1, rfl, by omega, by omega⟩, ?_⟩⟩⟩
      repeat' first | exact trivial | exact bH11_1 | apply And.intro | exact rfl
    · refine tail20 hb0 hbl ?_
      repeat' first | exact trivial | exact bT20_1 | exact bT20_2 | apply And.intro | exact rfl
end
section
variable (off n : Nat) (cs : Array Value) (ty : TypeId) (b : ByteArray) (hI : InsOk cs off n) (hn : n ≠ 0) (hb0 : b.size ≠ 0)
include hI hn
theorem s3_good : Good Try.prog (boolR true) 1 (backC (prS off n) litE) (prM true cs ty) := by
  refine run_vc (Eh_ok true false) 1000 (bk_s3 off n cs ty .empty true (fun i => i = 0 ∧ mayV cs off n = true) (fun _ _ _ _ _ => False)) ?_ (fun _ _ h => h)
    (fun fs m hb => nB_good (fun i ⟨e, hm⟩ => by rw [e]; exact t3_round off n cs ty .empty hI hn hm (by decide) (n + 1) 0 (by omega) (by omega)) (fun _ _ _ _ _ h => h.elim) hb)
  have hs : sizeD (encB cs off n) = n := enc_div
  refine ⟨fun _ => ⟨⟨hI, trivial⟩, ⟨fun hm => ⟨⟨hI, trivial⟩, ?_⟩, fun hm => ⟨⟨hI, trivial⟩, ?_⟩⟩⟩, fun _ => rfl⟩
  · have hN := (mayV_iff.1 hm).1
    have hz := encB_size cs off n
    rw [hm, hs]
    refine ⟨fun h => (by cases h), fun _ => ⟨⟨by omega, by omega, trivial⟩, ⟨fun _ => ⟨fun h => ?_, fun _ => ⟨⟨rfl, rfl⟩, ?_⟩⟩, fun h => ?_⟩⟩⟩
    · simp at h
    · repeat' first | exact trivial | exact bT11_1 | apply And.intro | exact rfl
    · rw [enc_decOk hI hm] at h; cases h
  · rw [hm]
    exact ⟨fun h => (by cases h), fun _ => rfl⟩
include hb0 in
theorem s4_good : Good Try.prog (boolR true) 1 (backC (prS off n) (strV b)) (prM true cs ty) := by
  by_cases hbl : b.size < 9223372036854775807
  · refine run_vc (Eh_ok true true) 1000 (bk_s4 off n cs ty b true (fun i => i = 0 ∧ mayV cs off n = true) (Q20 b)) ?_ (fun _ _ h => h)
      (fun fs m hb => nB_good (fun i ⟨e, hm⟩ => by rw [e]; exact t4_round off n cs ty b hI hn hm hb0 hbl (n + 1) 0 (by omega) (by omega)) u_good hb)
    have hs : sizeD (encB cs off n) = n := enc_div
    refine ⟨fun _ => ⟨fun _ => rfl, fun _ => ⟨⟨hI, trivial⟩, ⟨fun hm => ⟨⟨hI, trivial⟩, ?_⟩, fun hm => ⟨⟨hI, trivial⟩, ?_⟩⟩⟩⟩, fun _ => rfl⟩
    · have hN := (mayV_iff.1 hm).1
      have hz := encB_size cs off n
      rw [hm, hs]
      refine ⟨fun h => (by cases h), fun _ => ⟨⟨by omega, by omega, trivial⟩, ⟨fun _ => ⟨fun h => ?_, fun _ => ⟨⟨rfl, rfl⟩, ?_⟩⟩, fun h => ?_⟩⟩⟩
      · simp at h
      · repeat' first | exact trivial | exact bT11_1 | apply And.intro | exact rfl
      · rw [enc_decOk hI hm] at h; cases h
    · rw [hm]
      refine ⟨fun h => (by cases h), fun _ => ?_⟩
      refine tail20 hb0 hbl ?_
      repeat' first | exact trivial | exact bT20_1 | exact bT20_2 | apply And.intro | exact rfl
  · refine run_vc (Eh_ok true true) 1000 (bk_s4 off n cs ty b true (fun _ => False) (fun _ _ _ _ _ => False)) ?_ (fun _ _ h => h)
      (fun fs m hb => nB_good (fun i h => h.elim) (fun _ _ _ _ _ h => h.elim) hb)
    refine ⟨fun _ => ⟨fun _ => rfl, fun h => ?_⟩, fun _ => rfl⟩
    have := of_decide_eq_false h
    omega
end
theorem s1_true : (run EL 100000 1 (backC e0V litE) M1).allTrue = true := by kernel_rfl
end Go.Proofs.Ytaagmmljhgabfaa
/- Of code: the reference's contracts, and CodeTells' runs. No condition. -/
namespace Go.Proofs.Ytaagmmljhgabfaa
set_option linter.unusedSectionVars false
set_option maxRecDepth 100000
theorem fn8 : E0.fn 8 = some Try.f8 := by kernel_rfl
theorem body8 : Try.f8.body = some (Try.f8.body.getD .skip) := by kernel_rfl
theorem fn10 : E0.fn 10 = some Try.f10 := by kernel_rfl
theorem body10 : Try.f10.body = some (Try.f10.body.getD .skip) := by kernel_rfl
theorem fn12 : E0.fn 12 = some Try.f12 := by kernel_rfl
theorem body12 : Try.f12.body = some (Try.f12.body.getD .skip) := by kernel_rfl
theorem of_con {m : SMem} {i : Nat} {o n : SN} {cap : SK} {cs : Array Value} (hr : rowI m i = some cs) :
    Con E0 8 [.s (.c (.f (.slice i o n cap)))] m (needs [InsOk cs o.den n.den, n.den ≠ 0, n.den ≤ 200] (.ret (.s (.c (.f (.slice m.next (.l 0) (.o n.den) .any)))) (m.new (.pop (ofRow cs o.den n.den)) 37))) := by
  obtain ⟨v, ty, wr, hb⟩ := row_of hr
  intro A hs
  obtain ⟨hq, hA⟩ := Tree.sat_needs hs
  refine ⟨Try.f8, fn8, by rw [body8]; rfl, fun n0 F w0 w R args ha hR => ?_⟩
  obtain ⟨x, ds, fz, k1, _⟩ := hR.blk _ _ hb
  have hlt := hR.nx _ _ k1
  have hl' : All2 (SV.ok (pull (fun _ => i) 1 R)) [prS o.den n.den] args.toList := by
    revert ha
    generalize args.toList = vs
    intro ha
    match vs, ha with
    | [x], ha =>
      obtain ⟨⟨gl, cp, e1, e2, e3, e4⟩, _⟩ := ha
      exact ⟨⟨gl, cp, by unfold pull; exact e1, e2, trivial, e4⟩, trivial⟩
  refine (frame (ms := prM v cs ty) (ms' := ⟨2, Tr.nil.set 1 (some ⟨.pop (ofRow cs o.den n.den), 37, true⟩), []⟩) (E0_ok.fns 8 _ fn8).1 body8 (of_good v o.den n.den cs ty (hq _ (by simp)) (hq _ (by simp)) (hq _ (by simp))) rfl (ι := fun _ => i) ?_ (fun _ _ => hlt) ?_ ?_ ?_ (show 1 ≤ 2 by decide) hl' hR).mono ?_
  · intro a b h1 h2 _
    have h1 : a < 1 := h1
    have h2 : b < 1 := h2
    omega
  · intro j b hj
    obtain ⟨rfl, rfl⟩ := prM_get hj
    refine ⟨Nat.zero_lt_one, _, hb, rfl, fun h => (by cases h), fun R cs' h => ?_⟩
    cases v <;> exact h
  · intro j b hj hw
    obtain ⟨rfl, rfl⟩ := prM_get hj
    cases hw
  · intro j b hj h1
    have h1 : j < 1 := h1
    have e : j = 0 := by omega
    subst e
    have hj : (none : Option SBlk) = some b := hj
    cases hj
  · rintro u w' ⟨R', k1, k2, k3⟩
    exact ⟨_, _, R', hA, k1, k2, k3⟩
theorem nilA_ok {s : SV} {m' : SMem} {R R' : Ren} {v : Value} (h : nilA 0 s m') (hv : s.ok R' v) : nilV.ok R v := by
  unfold nilA at h
  split at h
  · exact hv
  · exact h.elim
theorem ofT_ok {m : SMem} {x : SV} {t : Tree} (h : ofT m x = some t) : Con E0 8 [x] m t := by
  unfold ofT at h
  split at h
  · cases h
    exact Con.none fn8 body8 (by kernel_rfl) (run_vc E0_ok 1000 (of_lit0 0) rfl (fun s m h => h) fun _ _ h => h.elim) fun _ _ _ _ _ => nilA_ok
  · cases h
    exact Con.none fn8 body8 (by kernel_rfl) (run_vc E0_ok 1000 (of_lit1 0) rfl (fun s m h => h) fun _ _ h => h.elim) fun _ _ _ _ _ => nilA_ok
  · split at h
    · rename_i cs e
      cases h
      exact of_con e
    · cases h
  · cases h
theorem strA_ok {b : ByteArray} (l : Bool) {s : SV} {m' : SMem} {R R' : Ren} {v : Value} (h : strA b s m') (hv : s.ok R' v) : (SV.s (.c (.f (cond l (.lit (.string b)) (.opq (.string b)))))).ok R v := by
  unfold strA at h
  split at h
  · unfold strF at h
    split at h
    · subst h; cases l <;> exact hv
    · subst h; cases l <;> exact hv
    · exact h.elim
  · exact h.elim
theorem byT_ok {m : SMem} {x : SV} {t : Tree} (h : byT m x = some t) : Con E0 10 [x] m t := by
  unfold byT at h
  split at h
  · cases h
    exact Con.none fn10 body10 (by kernel_rfl) (run_vc E0_ok 1000 (by_lit ⟨⟨[]⟩⟩) rfl (fun s m h => h) fun _ _ h => h.elim) fun _ _ _ _ _ => strA_ok true
  · split at h
    · rename_i o n cap _ cs e
      cases h
      exact Con.rowR fn10 body10 e (fun ty hq => by_good o.den n.den cs ty (hq _ (by simp)) (hq _ (by simp))) fun _ _ _ _ _ => strA_ok false
    · cases h
  · cases h
/-- A function that makes a row of its own, and says yes. -/
theorem Con.freshB {E : Env} (hE : EnvOk E) {g : FuncId} {l : List SV} {m : SMem} {q : List Prop} {k : SN} {cap : SK} {a : SA} {ty : TypeId} {fn : Func} {c : Code} (h1 : E.fn g = some fn) (h2 : fn.body = some c) (hl0 : allB noIds l = true) (ha : freeA a = true)
    (h : (∀ p ∈ q, p) → Good E.P (fun s m' => s = .tup [.c (.f (.slice 0 (.l 0) k cap)), .c (.f (.bool (.l true)))] ∧ m' = ⟨1, Tr.nil.set 0 (some ⟨a, ty, true⟩), []⟩) 0 [callFr g fn.ntmps l c] ⟨0, .nil, []⟩) :
    Con E g l m (needs q (.ret (.tup [.c (.f (.slice m.next (.l 0) k cap)), .c (.f (.bool (.l true)))]) (m.new a ty))) := by
  intro A hs
  obtain ⟨hq, hA⟩ := Tree.sat_needs hs
  refine ⟨fn, h1, by rw [h2]; rfl, fun n0 F w0 w R args hl hR => ?_⟩
  refine (answers_of_good (m := ⟨0, .nil, []⟩) (hE.fns _ _ h1).1 h2 (h hq) (ok_anys hl0 hl) hR.none).mono ?_
  rintro v w' ⟨s, m', R', ⟨rfl, rfl⟩, hX, hR', hv⟩
  have hb0 : getB (Tr.nil.set 0 (some ⟨a, ty, true⟩)) 0 = some ⟨a, ty, true⟩ := rfl
  obtain ⟨gl, cs, fz, e1, e2, e3, e4, e5⟩ := hR'.blk 0 _ hb0
  obtain ⟨e6, rfl⟩ := e5 rfl
  have e7 : w.heap.size ≤ gl.b := e6.resolve_right fun x => x
  obtain ⟨R2, k1, k2, k3⟩ := hR.grow hR'.fr.to e7 (hR'.lt 0 gl e1) e2 e3 (free_ok (R' := R) ha e4)
  obtain ⟨vs, rfl, hv⟩ := hv
  match hvs : vs.toList, hv with
  | [x, y], hv =>
    obtain ⟨⟨g, cp, f1, rfl, f2, f3⟩, hy, _⟩ := hv
    rw [e1] at f1
    cases f1
    refine ⟨_, _, R2, hA, k1, k3, vs, rfl, ?_⟩
    rw [hvs]
    exact ⟨⟨gl, cp, k2, rfl, f2, f3⟩, hy, trivial⟩
theorem nilB_of {b : Bool} {y : SB} {vs : Array Value} {R R' : Ren} (hy : y.den = b) (hl : All2 (S1.ok R') [.c (.f (.lit (.slice none 0 0))), .c (.f (.bool y))] vs.toList) : (nilB b).ok R (.tuple vs) := by
  match hvs : vs.toList, hl with
  | [a, c], hl =>
    refine ⟨vs, rfl, ?_⟩
    rw [hvs]
    obtain ⟨ha, hc, _⟩ := hl
    have hc : c = .bool y.den := hc
    rw [hy] at hc
    exact ⟨ha, hc, trivial⟩
theorem nilB_no {k : Nat} {cs : Array Value} {s : SV} {m' : SMem} {R R' : Ren} {v : Value} (h : rdAn false k cs s m') (hv : s.ok R' v) : (nilB false).ok R v := by
  unfold rdAn at h
  split at h
  · obtain ⟨vs, rfl, hl⟩ := hv
    exact nilB_of h.1 hl
  · cases h.1
  · exact h.elim
theorem nilB_yes {s : SV} {m' : SMem} {R R' : Ren} {v : Value} (h : rd0A true s m') (hv : s.ok R' v) : (nilB true).ok R v := by
  unfold rd0A at h
  split at h
  · obtain ⟨vs, rfl, hl⟩ := hv
    exact nilB_of h hl
  · exact h.elim
theorem rd_yes (s : ByteArray) (h0 : s.size ≠ 0) (hs : s.size ≤ 1000) (hd : refOk s = true) : Good Try.prog (fun r m' => r = .tup [.c (.f (.slice 0 (.l 0) (.o (sizeD s)) .any)), .c (.f (.bool (.l true)))] ∧ m' = ⟨1, Tr.nil.set 0 (some ⟨.pop (rdRow s), 37, true⟩), []⟩) 0 (rdC s) M0 := by
  refine Good.retX ((rd_all s h0 hs).mono ?_)
  intro r m' h
  rw [hd] at h
  unfold rdAn at h
  split at h
  · cases h.2
  · exact ⟨_, h.2⟩
  · exact h.elim
theorem rdT_ok {m : SMem} {x : SV} {t : Tree} (h : rdT m x = some t) : Con E0 12 [x] m t := by
  unfold rdT at h
  split at h
  · cases h
    exact Con.none fn12 body12 (by kernel_rfl) (run_vc E0_ok 1000 (rd_lit true) rfl (fun s m h => h) fun _ _ h => h.elim) fun _ _ _ _ _ => nilB_yes
  · rename_i s
    cases h
    refine Con.br (fun hd => ?_) fun hd => ?_
    · exact Con.freshB E0_ok fn12 body12 (by kernel_rfl) rfl fun hq => rd_yes s (hq _ (by simp)) (hq _ (by simp)) hd
    · exact Con.ro E0_ok (l := [strV s]) (l' := [strV s]) (ms := M0) (m := m) (A := rdAn false (s.size / 6) (rdRow s)) fn12 body12 rfl (fun i => i) (fun i b hb => by
        have hb : (Tr.nil : Tr SBlk).get i = some b := hb
        rw [Tr.get_nil] at hb; cases hb) (fun R vs ha => strV_ok ha) (fun hq => hd ▸ rd_all s (hq _ (by simp)) (hq _ (by simp))) (fun _ _ _ _ _ => nilB_no)
  · cases h
theorem conT_ok (g : FuncId) (l : List SV) (m : SMem) (t : Tree) (h : conT g l m = some t) : Con E0 g l m t := by
  unfold conT at h
  split at h
  · cases h; exact wakes_con m
  · exact mayT_ok h
  · exact encT_ok h
  · exact decT_ok h
  · exact mayRT_ok h
  · exact ofT_ok h
  · exact byT_ok h
  · exact rdT_ok h
  · cases h
theorem Et_ok (a : Bool) : EnvOk (Et a) := EnvOk.with E0_ok _ _ conT_ok
/-! CodeTells. -/
theorem tT_0 : TodoOk (ren 1 []) tT0 tT0 := TodoOk.same (by kernel_rfl)
theorem tT_2 : TodoOk (ren 1 [(1, 2), (2, 3)]) tT0 tT0 := TodoOk.same (by kernel_rfl)
theorem tT_3 : TodoOk (ren 1 [(1, 3), (2, 4)]) tT0 tT0 := TodoOk.same (by kernel_rfl)
theorem tT_4 : TodoOk (ren 1 [(1, 4), (2, 5)]) tT0 tT0 := TodoOk.same (by kernel_rfl)
theorem tH_1 : TodoOk (ren 1 [(1, 1), (2, 2)]) tH0 tH0 := TodoOk.same (by kernel_rfl)
def QT (b : ByteArray) (i : Int) (k : Nat) (rs : Array Value) (k' : Nat) (ds : Array Value) : Prop := i = 0 ∧ k = sizeD b ∧ rs = rdRow b ∧ k' = sizeD b ∧ ds = ofRow (rowD b) 0 (sizeD b) ∧ decOk b = true
def Q0T (i : Int) : Prop := i = 0
theorem nT_good {h : Bool} {b : ByteArray} {A : SV → SMem → Prop} {Q0 : Int → Prop} {Q : Int → Nat → Array Value → Nat → Array Value → Prop} (hg0 : ∀ i, Q0 i → Good Try.prog A 1 (headF (tF0 b i)) M1) (hg : ∀ i k rs k' ds, Q i k rs k' ds → Good Try.prog A 1 (headF (tF1 b i k k')) (tM rs ds)) {fs : List SFr} {m : SMem} (hb : nT h b Q0 Q fs m) : Good Try.prog A 1 fs m := by
  unfold nT at hb
  split at hb
  · split at hb
    · exact sub_good hb.2 (hg0 _ hb.1)
    · exact sub_good hb.2 (hg _ _ _ _ _ hb.1)
    · exact hb.elim
  · exact hb.elim
theorem tell_n (b : ByteArray) (i : Int) (hi : Q0T i) : Good Try.prog (boolR true) 1 (headF (tF0 b i)) M1 := by
  have hi : i = 0 := hi
  subst hi
  refine past_vc (Et_ok true) 1000 (tl_n b 0 true (fun _ => False) (fun _ _ _ _ _ => False)) ?_ (fun _ _ h => h) (fun fs m hb => nT_good (fun i h => h.elim) (fun _ _ _ _ _ h => h.elim) hb)
  exact ⟨fun h => absurd h (by decide), fun _ => rfl⟩
theorem tell_round {b : ByteArray} (hd : decOk b = true) : ∀ (K j : Nat), sizeD b - j < K → j ≤ sizeD b → Good Try.prog (boolR true) 1 (headF (tF1 b (j : Int) (sizeD b) (sizeD b))) (tM (rdRow b) (ofRow (rowD b) 0 (sizeD b))) := by
  obtain ⟨hI, hm, hE, hk64⟩ := b_facts hd
  have hk : sizeD b = b.size / 6 := rfl
  intro K
  induction K with
  | zero => intro j h; omega
  | succ K ih =>
    intro j hK hj
    refine past_vc (Et_ok true) 1000 (tl_u b j (sizeD b) (sizeD b) (rdRow b) (ofRow (rowD b) 0 (sizeD b)) true (fun _ => False) (fun i' k rs k' ds => ∃ t : Nat, i' = t ∧ sizeD b - t < K ∧ t ≤ sizeD b ∧ k = sizeD b ∧ rs = rdRow b ∧ k' = sizeD b ∧ ds = ofRow (rowD b) 0 (sizeD b))) ?_ (fun _ _ h => h)
      (fun fs m hb => nT_good (fun i h => h.elim) (fun i' k rs k' ds ⟨t, e1, k1, k2, k3, k4, k5, k6⟩ => by rw [e1, k3, k4, k5, k6]; exact ih t k1 k2) hb)
    refine ⟨fun h => ?_, fun h => rfl⟩
    have hlt : j < sizeD b := by have := of_decide_eq_true h; omega
    obtain ⟨o1, o2⟩ := of_row hI
    obtain ⟨r1, r2⟩ := rd_row b (n := sizeD b) (by omega)
    obtain ⟨i1, i2, i3, i4, i5⟩ := o1.2 j hlt
    obtain ⟨j1, j2, j3, j4, j5⟩ := r1.2 j hlt
    have he : ins (ofRow (rowD b) 0 (sizeD b)) 0 j = ins (rdRow b) 0 j := by
      rw [o2 j hlt]
      exact (dec_ins (s := b) hlt).trans (r2 j hlt).symm
    unfold ins at he
    injection he with h1 h2 h3 h4 h5
    have eA : ari BinOp.add IntKind.i64 (j : Int) 1 = ((j + 1 : Nat) : Int) := by rw [ari_add, i64_nat (show j < 9223372036854775807 by omega)]
    rw [Int.toNat_natCast, eA, h1, h2, h3, h4, h5]
    refine ⟨⟨⟨by omega, by omega⟩, trivial⟩, ⟨i1, i2, i3, i4, i5, trivial⟩, ⟨⟨by omega, by omega⟩, trivial⟩, ⟨j1, j2, j3, j4, j5, trivial⟩, ⟨fun h => ?_, fun _ => ⟨⟨j + 1, rfl, by omega, by omega, rfl, rfl, rfl, rfl⟩, ?_⟩⟩⟩
    · simp at h
    repeat' first | exact trivial | exact tH_1 | apply And.intro | exact rfl
theorem tell_u {b : ByteArray} (i : Int) (k : Nat) (rs : Array Value) (k' : Nat) (ds : Array Value) (h : QT b i k rs k' ds) : Good Try.prog (boolR true) 1 (headF (tF1 b i k k')) (tM rs ds) := by
  obtain ⟨rfl, rfl, rfl, rfl, rfl, hd⟩ := h
  exact tell_round hd (sizeD b + 1) 0 (by omega) (by omega)
theorem tailT {b : ByteArray} (hb0 : b.size ≠ 0) (hb1 : b.size ≤ 1000) {X Y : Prop} (hX : X) (hY : Y) :
    (ByteArray.size b ≠ 0 ∧ ByteArray.size b < 9223372036854775807 ∧ True) ∧ (decOk b = true → (ByteArray.size b ≠ 0 ∧ ByteArray.size b ≤ 1000 ∧ True) ∧ (refOk b = true → (((sizeD b : Int) != (sizeD b : Int)) = true → false = true) ∧ (((sizeD b : Int) != (sizeD b : Int)) = false → (InsOk (rowD b) 0 (sizeD b) ∧ sizeD b ≠ 0 ∧ sizeD b ≤ 200 ∧ True) ∧ QT b 0 (sizeD b) (rdRow b) (sizeD b) (ofRow (rowD b) 0 (sizeD b)) ∧ X)) ∧ (refOk b = false → false = true)) ∧
      (decOk b = false → (ByteArray.size b ≠ 0 ∧ ByteArray.size b ≤ 1000 ∧ True) ∧ (refOk b = true → false = true) ∧ (refOk b = false → Q0T 0 ∧ Y)) := by
  have hr := refOk_eq b hb1
  refine ⟨⟨hb0, by omega, trivial⟩, ⟨fun hd => ⟨⟨hb0, hb1, trivial⟩, ⟨fun _ => ⟨fun h => ?_, fun _ => ?_⟩, fun h => ?_⟩⟩, fun hd => ⟨⟨hb0, hb1, trivial⟩, ⟨fun h => ?_, fun _ => ⟨rfl, hY⟩⟩⟩⟩⟩
  · simp at h
  · obtain ⟨f1, f2, f3, f4⟩ := b_facts hd
    have hc : b.size % 6 = 0 := by unfold decOk at hd; simp at hd; exact hd.1.1
    have hk : sizeD b = b.size / 6 := rfl
    exact ⟨⟨f1, by omega, by omega, trivial⟩, ⟨rfl, rfl, rfl, rfl, rfl, hd⟩, hX⟩
  · rw [hr, hd] at h; cases h
  · rw [hr, hd] at h; cases h
theorem le1000 {b : ByteArray} (h : decide (((b.size : Nat) : Int) > 1000) = false) : b.size ≤ 1000 := by have := of_decide_eq_false h; omega
theorem tell2_good {b : ByteArray} (hb0 : b.size ≠ 0) : Good Try.prog (boolR true) 1 (tellC e0V (strV b)) M1 := by
  refine run_vc (Et_ok true) 1000 (tl_s2 b true Q0T (QT b)) ?_ (fun _ _ h => h) (fun fs m hb => nT_good (tell_n b) tell_u hb)
  refine ⟨fun _ => rfl, fun h => ?_⟩
  refine tailT hb0 (le1000 h) ?_ ?_
  all_goals repeat' first | exact trivial | exact tT_0 | exact tT_2 | apply And.intro | exact rfl
theorem same_no (b : ByteArray) : ((match mkSB (false && false) (!(ByteArray.toList b == ByteArray.toList b)) with | SB.l b => b | SB.o b => b) == false) = true := by
  show ((!(b.toList == b.toList)) == false) = true
  simp
section
variable (off n : Nat) (cs : Array Value) (ty : TypeId) (b : ByteArray) (hI : InsOk cs off n) (h0 : n ≠ 0) (hn : n ≤ 200) (hb0 : b.size ≠ 0)
include hI h0 hn
theorem tl_facts : RowOk (ofRow cs off n) 0 n ∧ mayV (ofRow cs off n) 0 n = mayV cs off n ∧ byB (ofRow cs off n) 0 n = encB cs off n := by
  obtain ⟨o1, o2⟩ := of_row hI
  exact ⟨o1, mayV_congr o2, by_enc fun i hi => ⟨o2 i hi, (hI.2 i hi).2⟩⟩
theorem tell3_good : Good Try.prog (boolR true) 1 (tellC (prS off n) litE) (prM true cs ty) := by
  refine run_vc (Et_ok false) 1000 (tl_s3 off n cs ty true) ?_ (fun _ _ h => h) (fun _ _ h => h.elim)
  obtain ⟨hR, hM, hB⟩ := tl_facts off n cs hI h0 hn
  rw [hM, hB]
  cases hm : mayV cs off n with
  | true =>
    refine ⟨fun _ => ⟨⟨hI, trivial⟩, ⟨fun _ => ⟨⟨hI, h0, hn, trivial⟩, ⟨hR, trivial⟩, ⟨hI, trivial⟩, ⟨fun _ => ⟨fun _ => ⟨⟨hI, h0, hn, trivial⟩, ⟨hR, hn, trivial⟩, ⟨fun _ => ⟨fun h => absurd h (by decide), fun _ => rfl⟩, fun h => Bool.noConfusion ((same_no (encB cs off n)).symm.trans h)⟩⟩, fun h => absurd h (by decide)⟩, fun h => absurd h (by decide)⟩⟩, fun h => absurd h (by decide)⟩⟩, fun _ => rfl⟩
  | false =>
    refine ⟨fun _ => ⟨⟨hI, trivial⟩, ⟨fun h => absurd h (by decide), fun _ => ⟨⟨hI, h0, hn, trivial⟩, ⟨hR, trivial⟩, ⟨hI, trivial⟩, ⟨fun _ => ⟨fun h => absurd h (by decide), fun _ => ⟨fun _ => rfl, fun _ => rfl⟩⟩, fun h => absurd h (by decide)⟩⟩⟩⟩, fun _ => rfl⟩
include hb0 in
theorem tell4_good : Good Try.prog (boolR true) 1 (tellC (prS off n) (strV b)) (prM true cs ty) := by
  refine run_vc (Et_ok true) 1000 (tl_s4 off n cs ty b true Q0T (QT b)) ?_ (fun _ _ h => h) (fun fs m hb => nT_good (tell_n b) tell_u hb)
  obtain ⟨hR, hM, hB⟩ := tl_facts off n cs hI h0 hn
  rw [hM, hB]
  cases hm : mayV cs off n with
  | true =>
    refine ⟨fun _ => ⟨fun _ => rfl, fun hb => ⟨⟨hI, trivial⟩, ⟨fun _ => ⟨⟨hI, h0, hn, trivial⟩, ⟨hR, trivial⟩, ⟨hI, trivial⟩, ⟨fun _ => ⟨fun _ => ⟨⟨hI, h0, hn, trivial⟩, ⟨hR, hn, trivial⟩, ⟨fun _ => ⟨fun h => absurd h (by decide), fun _ => tailT hb0 (le1000 hb) ?_ ?_⟩, fun h => Bool.noConfusion ((same_no (encB cs off n)).symm.trans h)⟩⟩, fun h => absurd h (by decide)⟩, fun h => absurd h (by decide)⟩⟩, fun h => absurd h (by decide)⟩⟩⟩, fun _ => rfl⟩
    all_goals repeat' first | exact trivial | exact tT_0 | exact tT_4 | apply And.intro | exact rfl
  | false =>
    refine ⟨fun _ => ⟨fun _ => rfl, fun hb => ⟨⟨hI, trivial⟩, ⟨fun h => absurd h (by decide), fun _ => ⟨⟨hI, h0, hn, trivial⟩, ⟨hR, trivial⟩, ⟨hI, trivial⟩, ⟨fun _ => ⟨fun h => absurd h (by decide), fun _ => ⟨fun _ => tailT hb0 (le1000 hb) ?_ ?_, fun h => absurd h (by decide)⟩⟩, fun h => absurd h (by decide)⟩⟩⟩⟩⟩, fun _ => rfl⟩
    all_goals repeat' first | exact trivial | exact tT_0 | exact tT_3 | apply And.intro | exact rfl
end
theorem tell1_true : (run (Et false) 100000 1 (tellC e0V litE) M1).allTrue = true := by kernel_rfl
end Go.Proofs.Ytaagmmljhgabfaa
/- How a call of data enters the symbolic machine, and how what it leaves is told; without package-level variables. No condition. -/
namespace Go.Proofs.Ytaagmmljhgabfaa
noncomputable section
open Go.ChangeShapes Go.WideShapes Go.ChangeAt Go.RowKit Go.Deep

theorem own : ownKnob Try.prog.godebug = none := by kernel_rfl
theorem laidOut : laidOutB Try.prog = true := by kernel_rfl
theorem sub_get {l : List Value} {a b o : Nat} {v : Value} (h : ((l.drop a).take b)[o]? = some v) : l[a + o]? = some v := by
  rw [List.getElem?_take] at h
  split at h
  · rw [List.getElem?_drop] at h; exact h
  · cases h
theorem sub_one {l : List Value} {a b : Nat} {v : Value} (h : (l.drop a).take b = [v]) : l[a]? = some v := by
  have : ((l.drop a).take b)[0]? = some v := by rw [h]; rfl
  exact sub_get this
section
variable {H : Type} {enc : TypeId × Value → H} {P : Program} {w : World} {base : Nat} {spare : Nat → Bool} {held : Bool}
theorem field_of {t : TypeId} {fs : Array Field} {fuel : Nat} {cs : List Value} {x : DataW H × List MemPlace} (ht : P.underlying t = some (.struct fs)) (h : DataW.trod enc P w base spare held fuel t cs = some x)
    (i : Nat) {f : Field} (hf : fs[i]? = some f) : ∃ n y, DataW.trod enc P w base spare held n f.type ((cs.drop f.offset).take (P.cellsOf f.type)) = some y := by
  obtain ⟨ys, n, _, _, _, hyl, hg⟩ := DataW.trod_struct ht h
  have hlt : i < fs.size := (Array.getElem?_eq_some_iff.1 hf).1
  have hys : ys[i]? = some (ys[i]'(by omega)) := List.getElem?_eq_getElem (by omega)
  exact ⟨n, _, (hg i f hf).trans hys⟩
theorem add_none (b off n : Nat) : (⟨b, off, none⟩ : Addr).add n = ⟨b, off + n, none⟩ := by
  unfold Addr.add
  split
  · rename_i e; subst e; rfl
  · rfl
/-- A slice that came in: where it lies, and each element as it reads. -/
theorem slice_cells {t e : TypeId} {base' C : Nat} {fuel : Nat} {A : Option Addr} {len cap : Nat} {x : DataW H × List MemPlace} (ht : P.underlying t = some (.slice e)) (hC : P.cellsOf e = C)
    (hok : Value.okWide P w .any base t (.slice A len cap)) (h : DataW.trod enc P w base' (fun _ => true) held fuel t [.slice A len cap] = some x) :
    (A = none ∧ len = 0 ∧ cap = 0) ∨ ∃ b off cs ty fz, A = some ⟨b, off, none⟩ ∧ len ≤ cap ∧ cap ≤ maxLen ∧ w.heap[b]? = some (.cells cs ty fz) ∧
      ∀ j, j < len → ∃ n y, DataW.trod enc P w base' (fun _ => true) held n e ((cs.toList.drop (off + j * C)).take C) = some y := by
  rcases open_slice ht h with ⟨hcs, hx⟩ | ⟨a, len', cap', m, n, D, Pl, hcs, _, hl, hmx, hm, hx, hi⟩
  · simp at hcs
    exact .inl hcs
  · simp at hcs
    obtain ⟨rfl, rfl, rfl⟩ := hcs
    simp at hm
    subst hm
    obtain ⟨b, off, spot⟩ := a
    simp only [Value.okWide, ht, Cell.okWide, Cell.ok] at hok
    obtain ⟨_, _, _, hs, _, _, hsh, _⟩ := hok
    have hs : spot = none := hs
    subst hs
    cases ho : w.heap[b]? with
    | none => simp [World.shape?, ho] at hsh
    | some o =>
      have hcells : ∃ cs ty fz, o = .cells cs ty fz := by
        cases o <;> first | exact ⟨_, _, _, rfl⟩ | simp [World.shape?, ho] at hsh
      obtain ⟨cs, ty, fz, rfl⟩ := hcells
      refine .inr ⟨b, off, cs, ty, fz, rfl, hl, hmx, ho, fun j hj => ?_⟩
      obtain ⟨cs', hc, ht'⟩ := hi j (by omega)
      rw [hC] at hc
      obtain ⟨_, hcl, hat⟩ := World.cells?_some hc
      refine ⟨n, (D j, Pl j), ?_⟩
      rw [← ht']
      congr 1
      apply List.ext_getElem?
      intro i
      rw [List.getElem?_take]
      by_cases hi' : i < C
      · rw [if_pos hi', ← hat i hi', add_none, add_none]
        simp [World.cell?, ho, Nat.add_assoc]
      · rw [if_neg hi', List.getElem?_eq_none (by omega)]
theorem post_of_below {f : Func} {s : ChangeSpec} {apart fresh handsOn again : Bool} {W W' : World} {args : Array Value} {v : Value} {ds gs : List (DataW H)} {before pa pv : List MemPlace}
    (hW : DataW.Whole enc P f.params.toList s.vars apart W args.toList ds gs before)
    (hres : ∀ (b : Nat) (sp : Nat → Bool) (hd : Bool), DataW.TrodAll enc P W' b sp hd f.resultTypes.toList (v.resultList f.resultTypes.size) (s.fn H (ds ++ gs)).results [])
    (hargs : ∀ sp : Nat → Bool, (∀ p ∈ before, sp p.block = true) → DataW.TrodAll enc P W' 0 sp true f.params.toList args.toList (s.fn H (ds ++ gs)).args pa)
    (hvars : ∀ sp : Nat → Bool, (∀ p ∈ before, sp p.block = true) → DataW.TrodVars enc P W' sp s.vars (s.fn H (ds ++ gs)).vars pv)
    (hps : before = pa ++ pv) (hb : Below W.heap.size W W')
    (hok : ∀ (j : Nat) (t : TypeId) (r : Value), f.resultTypes[j]? = some t → (v.resultList f.resultTypes.size)[j]? = some r → Value.okWide P W' .any 0 t r) :
    s.post enc P f apart fresh handsOn again W args v W' := by
  have hlt : ∀ p ∈ before, p.block < W.heap.size := fun p hp => hW.lt p hp
  have hold : ∀ p ∈ before, (fun b => decide (b < W.heap.size)) p.block = true := fun p hp => by simpa using hlt p hp
  refine ⟨ds, gs, before, [], pa, pv, hW, hres _ _ _, hargs _ hold, hvars _ hold, World.keptBut_mono (fun p hp => ⟨hp, ?_⟩) (hb.frame (· ∈ before)), fun _ => ?_⟩
  · rw [hps, List.mem_append] at hp
    exact Or.inr hp
  · obtain ⟨_, _, _, _, _, hz, hn⟩ := hW
    refine ⟨hok, _, _, ([] ++ pa) ++ pv, ⟨[] ++ pa, pv, trodAll_append (hargs _ (fun _ _ => rfl)) (hres _ _ _), hvars _ (fun _ _ => rfl), rfl, ?_, ?_⟩, ?_⟩
    · intro b off hp
      have hin : MemPlace.cell b off ∈ before := by rw [hps]; simpa using hp
      rw [hb.frozen (hlt _ hin)]
      exact hz b off hin
    · intro ha
      have := hn ha
      rw [hps] at this
      simpa using this
    · intro p hp _
      rw [hps]
      simpa using hp
end
theorem below_of {n0 : Nat} {w0 w : World} (h : BelowF n0 (fun _ => False) w0 w) : Below n0 w0 w := ⟨h.os, h.tape, h.output, h.size, fun k hk => h.block k hk fun x => x⟩
theorem rel_empty (hg : glTab = []) (W : World) (n : Nat) : Rel W.heap.size (fun _ => False) W (fun _ => none) ⟨n, .nil, []⟩ W :=
  ⟨fun _ _ _ _ _ _ h => by (cases h), fun _ _ h => by (cases h), fun _ _ h => by (cases h), fun i b h => by (have h : (Tr.nil : Tr SBlk).get i = some b := h; rw [Tr.get_nil] at h; cases h), Nat.le_refl _, BelowF.refl _ _ _,
    fun _ _ h => by (cases h), fun _ _ _ _ _ _ h => by (cases h), fun g cs h => by rw [hg] at h; cases h⟩
/-- One block came in, at which nothing is written. -/
def oneD (ds : Array Value) (ty : TypeId) : SMem := ⟨1, Tr.node .nil (some ⟨.raw ds, ty, false⟩) .nil, []⟩
theorem one_get {ds : Array Value} {ty : TypeId} {i : Nat} {b : SBlk} (h : getB (oneD ds ty).bl i = some b) : i = 0 ∧ b = ⟨.raw ds, ty, false⟩ := by
  unfold getB oneD at h
  cases i with
  | zero => cases h; exact ⟨rfl, rfl⟩
  | succ i =>
    rw [Tr.get_succ, Tr.get_nil, ite_self] at h
    cases h
theorem rel_one (hg : glTab = []) {W : World} {b : Nat} {cs : Array Value} {ty : TypeId} {fz : Nat × Nat} (hb : W.heap[b]? = some (.cells cs ty fz)) :
    Rel W.heap.size (fun _ => False) W (fun i => if i = 0 then some ⟨b, cs.size⟩ else none) (oneD cs ty) W := by
  have key : ∀ {i : Nat} {g : Loc}, (if i = 0 then some (⟨b, cs.size⟩ : Loc) else none) = some g → i = 0 ∧ g = ⟨b, cs.size⟩ := by
    intro i g h
    split at h
    · rename_i e; cases h; exact ⟨e, rfl⟩
    · cases h
  have hlt : b < W.heap.size := (Array.getElem?_eq_some_iff.1 hb).1
  refine ⟨fun i j g h b c h1 h2 _ _ _ _ => by rw [(key h1).1, (key h2).1], fun i g h => by rw [(key h).2]; exact hlt, fun i g h => by rw [(key h).1]; exact Nat.zero_lt_one, fun i c hc => ?_, Nat.le_refl _, BelowF.refl _ _ _,
    fun _ _ h => by (cases h), fun _ _ _ _ _ _ _ _ _ h => by (cases h), fun g cs h => by rw [hg] at h; cases h⟩
  obtain ⟨rfl, rfl⟩ := one_get hc
  exact ⟨⟨b, cs.size⟩, cs, fz, rfl, hb, rfl, rfl, fun h => by cases h⟩
end
end Go.Proofs.Ytaagmmljhgabfaa
/- For every row of instructions and every string, bailiwicklaw13.CodeBack returns true, and each argument reads behind the call as it did before. No condition. -/
namespace Go.Proofs.Ytaagmmljhgabfaa
set_option maxRecDepth 100000
open Go.ChangeShapes Go.WideShapes Go.ChangeAt Go.RowKit Go.Deep
theorem cells41 : Try.prog.cellsOf 41 = 5 := by kernel_rfl
theorem gl_nil : glTab = [] := rfl
theorem isInt_of {k : IntKind} {cs : Array Value} {i : Nat} {n : Int} (h : cs.toList[i]? = some (.int k n)) : IsInt k cs i ∧ intAt cs i = n := by
  rw [Array.getElem?_toList] at h
  exact ⟨(intAt_is h).2, (intAt_is h).1⟩
theorem wf_u8 {n : Int} (h : (Lit.int .u8 n).wf = true) : 0 ≤ n ∧ n ≤ 255 := by
  simp only [Lit.wf, Bool.and_eq_true, decide_eq_true_eq] at h
  exact h
theorem wf_u16 {n : Int} (h : (Lit.int .u16 n).wf = true) : 0 ≤ n ∧ n ≤ 65535 := by
  simp only [Lit.wf, Bool.and_eq_true, decide_eq_true_eq] at h
  exact h
theorem ins_of {H : Type} {enc : TypeId × Value → H} {W : World} {base : Nat} {held : Bool} {n : Nat} {cs : Array Value} {off i : Nat} {y : DataW H × List MemPlace}
    (h : DataW.trod enc Try.prog W base (fun _ => true) held n 41 ((cs.toList.drop (off + i * 5)).take 5) = some y) : InsAt cs (off + i * 5) ∧ (ins cs off i).In := by
  obtain ⟨n0, y0, h0⟩ := field_of Try.underlying41 h 0 rfl
  obtain ⟨n1, y1, h1⟩ := field_of Try.underlying41 h 1 rfl
  obtain ⟨n2, y2, h2⟩ := field_of Try.underlying41 h 2 rfl
  obtain ⟨n3, y3, h3⟩ := field_of Try.underlying41 h 3 rfl
  obtain ⟨n4, y4, h4⟩ := field_of Try.underlying41 h 4 rfl
  obtain ⟨m0, e0, _, w0⟩ := DataW.trod_int Try.underlying5 h0
  obtain ⟨m1, e1, _, w1⟩ := DataW.trod_int Try.underlying5 h1
  obtain ⟨m2, e2, _, w2⟩ := DataW.trod_int Try.underlying5 h2
  obtain ⟨m3, e3, _, w3⟩ := DataW.trod_int Try.underlying5 h3
  obtain ⟨m4, e4, _, w4⟩ := DataW.trod_int Try.underlying39 h4
  obtain ⟨a0, b0⟩ := isInt_of (sub_get (sub_one e0))
  obtain ⟨a1, b1⟩ := isInt_of (sub_get (sub_one e1))
  obtain ⟨a2, b2⟩ := isInt_of (sub_get (sub_one e2))
  obtain ⟨a3, b3⟩ := isInt_of (sub_get (sub_one e3))
  obtain ⟨a4, b4⟩ := isInt_of (sub_get (sub_one e4))
  refine ⟨⟨a0, a1, a2, a3, a4⟩, ?_⟩
  have w0 := wf_u8 w0
  have w1 := wf_u8 w1
  have w2 := wf_u8 w2
  have w3 := wf_u8 w3
  have w4 := wf_u16 w4
  rw [← b0] at w0
  rw [← b1] at w1
  rw [← b2] at w2
  rw [← b3] at w3
  rw [← b4] at w4
  exact ⟨w0, w1, w2, w3, w4⟩
/-- A row of instructions that came in: empty, or so many cells of a block. -/
def InsIn (W : World) (v : Value) : Prop :=
  (∃ a c, v = .slice a 0 c) ∨ ∃ b off n cap cs ty fz, v = .slice (some ⟨b, off, none⟩) n cap ∧ n ≠ 0 ∧ n ≤ cap ∧ W.heap[b]? = some (.cells cs ty fz) ∧ (n ≤ 200 → InsOk cs off n)
theorem ins_in {H : Type} {enc : TypeId × Value → H} {W : World} {base base' : Nat} {fuel : Nat} {v : Value} {held : Bool} {x : DataW H × List MemPlace}
    (hok : Value.okWide Try.prog W .any base 22 v) (h : DataW.trod enc Try.prog W base' (fun _ => true) held fuel 22 [v] = some x) : InsIn W v := by
  obtain ⟨A, len, cap, rfl⟩ := okWide_slice Try.underlying22 hok
  rcases slice_cells Try.underlying22 cells41 hok h with ⟨rfl, rfl, rfl⟩ | ⟨b, off, cs, ty, fz, rfl, hl, _, ho, hj⟩
  · exact .inl ⟨_, _, rfl⟩
  · by_cases h0 : len = 0
    · subst h0; exact .inl ⟨_, _, rfl⟩
    · refine .inr ⟨b, off, len, cap, cs, ty, fz, rfl, h0, hl, ho, fun hn => ⟨by omega, fun i hi => ?_⟩⟩
      obtain ⟨n, y, hy⟩ := hj i hi
      exact ins_of hy
theorem body4 : Try.f4.body = some (Try.f4.body.getD .skip) := rfl
theorem boolR_true {R : Ren} {s : SV} {m : SMem} {v : Value} (h : boolR true s m) (hv : s.ok R v) : v = .bool true := by
  unfold boolR at h
  split at h
  · have hv : v = .bool _ := hv
    rw [hv, h]
  · exact h.elim
theorem calls_of {W : World} {x y : SV} {m : SMem} {R : Ren} {v u : Value} (hm : m.next = 1) (hg : Good Try.prog (boolR true) 1 (backC x y) m) (hx : x.ok R v) (hy : y.ok R u) (hR : Rel W.heap.size (fun _ => False) W R m W) :
    Calls Try.prog 4 #[v, u] W fun e w' => e = .returned (.bool true) ∧ Below W.heap.size W w' := by
  have hl : All2 (SV.ok R) [x, y] (#[v, u] : Array Value).toList := ⟨hx, hy, trivial⟩
  have hg : Good Try.prog (boolR true) m.next (backC x y) m := by rw [hm]; exact hg
  have h := answers_of_good Try.func4 body4 hg hl hR
  unfold Answers at h
  refine h.mono ?_
  rintro e w' ⟨v, rfl, s', m', R', hr, _, hR', hv⟩
  exact ⟨by rw [boolR_true hr hv], below_of hR'.fr⟩
theorem s1_good : Good Try.prog (boolR true) 1 (backC e0V litE) M1 :=
  (good_true EL_ok s1_true).mono fun s m h => by rw [h]; rfl
theorem s3_any (off n : Nat) (cs : Array Value) (ty : TypeId) (hn : n ≠ 0) (hI : n ≤ 200 → InsOk cs off n) : Good Try.prog (boolR true) 1 (backC (prS off n) litE) (prM true cs ty) := by
  by_cases h : n ≤ 200
  · exact s3_good off n cs ty (hI h) hn
  · refine run_vc (Eh_ok true false) 1000 (bk_s3 off n cs ty .empty true (fun _ => False) (fun _ _ _ _ _ => False)) ?_ (fun _ _ h => h) (fun fs m hb => nB_good (fun i h => h.elim) (fun _ _ _ _ _ h => h.elim) hb)
    refine ⟨fun h1 => ?_, fun _ => rfl⟩
    simp at h1; omega
theorem s4_any (off n : Nat) (cs : Array Value) (ty : TypeId) (b : ByteArray) (hb0 : b.size ≠ 0) (hn : n ≠ 0) (hI : n ≤ 200 → InsOk cs off n) : Good Try.prog (boolR true) 1 (backC (prS off n) (strV b)) (prM true cs ty) := by
  by_cases h : n ≤ 200
  · exact s4_good off n cs ty b (hI h) hn hb0
  · refine run_vc (Eh_ok true true) 1000 (bk_s4 off n cs ty b true (fun _ => False) (fun _ _ _ _ _ => False)) ?_ (fun _ _ h => h) (fun fs m hb => nB_good (fun i h => h.elim) (fun _ _ _ _ _ h => h.elim) hb)
    refine ⟨fun h1 => ?_, fun _ => rfl⟩
    simp at h1; omega
theorem empty_of {b : ByteArray} (h : b.size = 0) : b = ⟨⟨[]⟩⟩ := by
  apply ByteArray.ext
  exact Array.eq_empty_of_size_eq_zero h
theorem back_call {W : World} {v : Value} {b : ByteArray} (hv : InsIn W v) :
    Calls Try.prog 4 #[v, .string b] W fun e w' => e = .returned (.bool true) ∧ Below W.heap.size W w' := by
  by_cases h0 : b.size = 0
  · have e := empty_of h0
    subst e
    rcases hv with ⟨a, c, rfl⟩ | ⟨b, off, n, cap, cs, ty, fz, rfl, hn, hl, hb, hI⟩
    · exact calls_of rfl s1_good ⟨a, c, rfl⟩ ⟨rfl, rfl⟩ (rel_empty gl_nil W 1)
    · exact calls_of rfl (s3_any off n cs ty hn hI) ⟨⟨b, cs.size⟩, cap, rfl, rfl, trivial, hl⟩ ⟨rfl, rfl⟩ (rel_one gl_nil hb)
  · rcases hv with ⟨a, c, rfl⟩ | ⟨b', off, n, cap, cs, ty, fz, rfl, hn, hl, hb, hI⟩
    · exact calls_of rfl (s2_good h0) ⟨a, c, rfl⟩ ⟨rfl, rfl⟩ (rel_empty gl_nil W 1)
    · exact calls_of rfl (s4_any off n cs ty b h0 hn hI) ⟨⟨b', cs.size⟩, cap, rfl, rfl, trivial, hl⟩ ⟨rfl, rfl⟩ (rel_one gl_nil hb)
theorem back_lifted (os : Os) (started : os.Started) (H : Type) (enc : TypeId × Value → H) :
    ReturnsInHanded {} Try.checked os 4 .any (Rows.codeBackSpec.pre6 enc Try.prog Try.f4 Rows.codeBackRow.domain false) (Rows.codeBackSpec.post enc Try.prog Try.f4 false true false false) := by
  refine returnsInHanded_of_change (C := Try.checked) own started (by kernel_rfl) Try.func4
    (ChangeSpec.witness6 (enc := enc) (C := Try.checked) false ⟨#[], #[.slice none 0 0, .string .empty], []⟩ 8 (by kernel_rfl) (by kernel_rfl) (by kernel_rfl) (by kernel_rfl)) ?_
  intro W base args ds gs before hval0 hW hcnd _
  have hval : ∀ (j : Nat) t v, Try.f4.params[j]? = some t → args[j]? = some v → Value.okWide Try.prog W .any base t v := hval0
  have hW' := hW
  obtain ⟨p, q, hA0, hV, rfl, hfz, hnd⟩ := hW
  have hA : DataW.TrodAll enc Try.prog W 0 (fun _ => true) true Try.f4.params.toList args.toList ds p := hA0
  rw [Try.params4] at hA hval
  obtain ⟨v0, v1, d0, d1, p0, p1, rfl, rfl, rfl, h0, h1⟩ := trodAll_two hA
  obtain ⟨rfl, rfl⟩ := trodVars_none hV
  have h0k := h0
  obtain ⟨s, rfl, rfl, rfl, hs⟩ := Go.ChangeMaps.open_string Try.underlying9 (hval 1 9 v1 rfl rfl) h1
  obtain ⟨fu0, hf0⟩ := h0
  have k0 : InsIn W v0 := ins_in (hval 0 22 v0 rfl rfl) (by
    obtain ⟨A, len, cap, e⟩ := okWide_slice Try.underlying22 (hval 0 22 v0 rfl rfl)
    subst e
    exact hf0)
  clear hA0 hval0
  simp only [List.append_nil] at hW'
  refine (back_call k0).mono fun e' W' ⟨he, hb⟩ => ?_
  subst he
  have hlt : ∀ y ∈ p0, y.block < W.heap.size := fun y hy => by simpa using hW'.lt y (by simpa using hy)
  refine ⟨_, rfl, post_of_below (pa := p0) (pv := []) hW' (fun _ _ _ => trodAll_mk1 (shut_bool Try.underlying4 _)) (fun sp hsp => ?_) (fun _ _ => rfl) (by simp) hb (ok_one (by kernel_rfl) rfl (okWide_bool_mk Try.underlying4 _))⟩
  rw [show p0 = p0 ++ [] from (List.append_nil p0).symm]
  refine trodAll_mk2 ?_ (Go.ChangeMaps.shut_string Try.underlying9 hs)
  exact Go.WideElems.Trod_stays laidOut (by kernel_rfl) (of_decide_eq_true (by kernel_rfl)) h0k (fun y hy => hb.same (hlt y hy)) (fun y hy => hsp y (by simpa using hy))
theorem codeBack_holds : Rows.CodeBackSaid :=
  OpenClaim.holds_of_wide 4 Try.f4 rfl rfl rfl rfl rfl rfl rfl ⟨rfl, rfl, rfl, rfl, rfl⟩ rfl rfl rfl rfl rfl (by kernel_rfl) Try.func4 (by kernel_rfl)
    (of_decide_eq_true (by kernel_rfl)) (by unfold Func.isWrapper; first | (rw [if_pos (by decide +kernel)]; kernel_rfl) | (rw [if_neg (by decide +kernel)]; exact ⟨rfl, rfl⟩))
    (fun os started H enc _ => back_lifted os started H enc)
end Go.Proofs.Ytaagmmljhgabfaa
