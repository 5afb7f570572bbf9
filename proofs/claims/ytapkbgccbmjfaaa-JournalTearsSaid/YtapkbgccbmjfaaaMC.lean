/- Of journal: Read's rounds, as propositions. No condition. -/
import Derived.Test.YtapkbgccbmjfaaaMB
namespace Go.Proofs.Ytapkbgccbmjfaaa
set_option maxRecDepth 100000
theorem k_start (b : ByteArray) (ok w : Bool) (P : Int) (n k : Nat) (z : Int) (tn : Bool) (rs vs : Array Value) (Q0 : Int → Int → Prop) : (gR ER 0 (reC b) M0).vc (reA ok w P n k z tn rs vs) (jrN0 b Q0) =
    ((ByteArray.size b ≤ (100000 : Nat) ∧ True) ∧ (preH b = true → (okD (cB b) = true → (decide (ByteArray.size (leftB (cB b)) ≠ (0 : Nat)) = true → ok = false ∧ (0 : Int) = (0 : Int) ∧ (3 : Int) = (3 : Int) ∧ (0 : Int) = (0 : Int) ∧ false = false ∧ True) ∧ (decide (ByteArray.size (leftB (cB b)) ≠ (0 : Nat)) = false → Q0 (↑(endN b + 4) : Int) (↑(endN b + 4) : Int) ∧ CallKind.normal = CallKind.normal ∧ TodoOk (ren 0 [(0, 0), (1, 1), (2, 2), (3, 3), (4, 4), (5, 5), (6, 6), (7, 7), (8, 8)]) jrT0 jrT0 ∧ CallKind.normal = CallKind.normal ∧ TodoOk (ren 0 [(0, 0), (1, 1), (2, 2), (3, 3), (4, 4), (5, 5), (6, 6), (7, 7), (8, 8)]) jrT1 jrT1 ∧ Value.string b = Value.string b ∧ Value.string b = Value.string b ∧ Value.string b = Value.string b ∧ byteAt (cB b) (0 : Nat) = byteAt (cB b) (0 : Nat) ∧ numB (cB b) = numB (cB b) ∧ Value.slice none (0 : Nat) (0 : Nat) = Value.slice none (0 : Nat) (0 : Nat) ∧ (↑(endN b + 4) : Int) = (↑(endN b + 4) : Int) ∧ Fn.func (38 : Nat) = Fn.func (38 : Nat) ∧ byteAt (cB b) (0 : Nat) = byteAt (cB b) (0 : Nat) ∧ numB (cB b) = numB (cB b) ∧ Value.slice none (0 : Nat) (0 : Nat) = Value.slice none (0 : Nat) (0 : Nat) ∧ byteAt (cB b) (0 : Nat) = byteAt (cB b) (0 : Nat) ∧ numB (cB b) = numB (cB b) ∧ Value.slice none (0 : Nat) (0 : Nat) = Value.slice none (0 : Nat) (0 : Nat) ∧ (↑(endN b + 4) : Int) = (↑(endN b + 4) : Int) ∧ (↑(endN b + 4) : Int) = (↑(endN b + 4) : Int) ∧ byteAt (cB b) (0 : Nat) = byteAt (cB b) (0 : Nat) ∧ numB (cB b) = numB (cB b) ∧ Value.slice none (0 : Nat) (0 : Nat) = Value.slice none (0 : Nat) (0 : Nat) ∧ (↑(endN b + 4) : Int) = (↑(endN b + 4) : Int) ∧ (↑(endN b + 4) : Int) = (↑(endN b + 4) : Int) ∧ byteAt (cB b) (0 : Nat) = byteAt (cB b) (0 : Nat) ∧ numB (cB b) = numB (cB b) ∧ Value.slice none (0 : Nat) (0 : Nat) = Value.slice none (0 : Nat) (0 : Nat) ∧ (↑(endN b + 4) : Int) = (↑(endN b + 4) : Int) ∧ (↑(endN b + 4) : Int) = (↑(endN b + 4) : Int) ∧ Fn.func (30 : Nat) = Fn.func (30 : Nat) ∧ (39 : Nat) = (39 : Nat) ∧ Value.slice none (0 : Nat) (0 : Nat) = Value.slice none (0 : Nat) (0 : Nat) ∧ Value.slice none (0 : Nat) (0 : Nat) = Value.slice none (0 : Nat) (0 : Nat) ∧ (9 : TypeId) = (9 : TypeId) ∧ rowP (cB b) (numB (cB b)) = rowP (cB b) (numB (cB b)) ∧ (39 : Nat) = (39 : Nat) ∧ byteAt (cB b) (0 : Nat) = byteAt (cB b) (0 : Nat) ∧ numB (cB b) = numB (cB b) ∧ Value.slice none (0 : Nat) (0 : Nat) = Value.slice none (0 : Nat) (0 : Nat) ∧ (↑(endN b + 4) : Int) = (↑(endN b + 4) : Int) ∧ (9 : Nat) = (9 : Nat) ∧ Value.string b = Value.string b ∧ (32 : Nat) = (32 : Nat) ∧ byteAt (cB b) (0 : Nat) = byteAt (cB b) (0 : Nat) ∧ numB (cB b) = numB (cB b) ∧ Value.slice none (0 : Nat) (0 : Nat) = Value.slice none (0 : Nat) (0 : Nat) ∧ (43 : Nat) = (43 : Nat) ∧ Fn.func (30 : Nat) = Fn.func (30 : Nat) ∧ (3 : Nat) = (3 : Nat) ∧ (↑(endN b + 4) : Int) = (↑(endN b + 4) : Int) ∧ EqL jrLp jrLp ∧ Value.string b = Value.string b ∧ Value.string b = Value.string b ∧ Value.string b = Value.string b ∧ byteAt (cB b) (0 : Nat) = byteAt (cB b) (0 : Nat) ∧ numB (cB b) = numB (cB b) ∧ Value.slice none (0 : Nat) (0 : Nat) = Value.slice none (0 : Nat) (0 : Nat) ∧ (↑(endN b + 4) : Int) = (↑(endN b + 4) : Int) ∧ Fn.func (38 : Nat) = Fn.func (38 : Nat) ∧ byteAt (cB b) (0 : Nat) = byteAt (cB b) (0 : Nat) ∧ numB (cB b) = numB (cB b) ∧ Value.slice none (0 : Nat) (0 : Nat) = Value.slice none (0 : Nat) (0 : Nat) ∧ byteAt (cB b) (0 : Nat) = byteAt (cB b) (0 : Nat) ∧ numB (cB b) = numB (cB b) ∧ Value.slice none (0 : Nat) (0 : Nat) = Value.slice none (0 : Nat) (0 : Nat) ∧ (↑(endN b + 4) : Int) = (↑(endN b + 4) : Int) ∧ (↑(endN b + 4) : Int) = (↑(endN b + 4) : Int) ∧ byteAt (cB b) (0 : Nat) = byteAt (cB b) (0 : Nat) ∧ numB (cB b) = numB (cB b) ∧ Value.slice none (0 : Nat) (0 : Nat) = Value.slice none (0 : Nat) (0 : Nat) ∧ (↑(endN b + 4) : Int) = (↑(endN b + 4) : Int) ∧ (↑(endN b + 4) : Int) = (↑(endN b + 4) : Int) ∧ byteAt (cB b) (0 : Nat) = byteAt (cB b) (0 : Nat) ∧ numB (cB b) = numB (cB b) ∧ Value.slice none (0 : Nat) (0 : Nat) = Value.slice none (0 : Nat) (0 : Nat) ∧ (↑(endN b + 4) : Int) = (↑(endN b + 4) : Int) ∧ (↑(endN b + 4) : Int) = (↑(endN b + 4) : Int) ∧ Fn.func (30 : Nat) = Fn.func (30 : Nat) ∧ True)) ∧ (okD (cB b) = false → ok = false ∧ (0 : Int) = (0 : Int) ∧ (3 : Int) = (3 : Int) ∧ (0 : Int) = (0 : Int) ∧ false = false ∧ True)) ∧ (preH b = false → ok = false ∧ (0 : Int) = (0 : Int) ∧ (3 : Int) = (3 : Int) ∧ (0 : Int) = (0 : Int) ∧ false = false ∧ True)) := by kernel_rfl
theorem k_first (b : ByteArray) (a z : Int) (ok w : Bool) (P : Int) (n k : Nat) (zF : Int) (tn : Bool) (rs vs : Array Value) (Q0 : Int → Int → Prop) (Q1 : Int → Int → Nat → Array Value → Prop) : (jrS0 b a z).vc (reA ok w P n k zF tn rs vs) (jrN b Q0 Q1) =
    ((decide (a < (((ByteArray.size b) : Nat) : Int)) = true → (((0 : Int) ≤ a ∧ a < (↑((ByteArray.size b)) : Int)) ∧ True) ∧ ((decide (IntKind.wrap IntKind.i64 (byteAt b (Int.toNat a)) < (1 : Int)) == false) = true → ((decide (IntKind.wrap IntKind.i64 (byteAt b (Int.toNat a)) > (200 : Int)) == false) = true → (decide (ari BinOp.add IntKind.i64 (ari BinOp.add IntKind.i64 (ari BinOp.add IntKind.i64 a (1 : Int)) (IntKind.wrap IntKind.i64 (byteAt b (Int.toNat a)))) (4 : Int) > (((ByteArray.size b) : Nat) : Int)) = true → ok = true ∧ w = false ∧ P = byteAt (cB b) (0 : Nat) ∧ n = numB (cB b) ∧ Value.slice none (0 : Nat) (0 : Nat) = Value.slice none (0 : Nat) (0 : Nat) ∧ zF = z ∧ tn = decide (z < (((ByteArray.size b) : Nat) : Int)) ∧ (9 : TypeId) = (9 : TypeId) ∧ rs = rowP (cB b) (numB (cB b)) ∧ True) ∧ (decide (ari BinOp.add IntKind.i64 (ari BinOp.add IntKind.i64 (ari BinOp.add IntKind.i64 a (1 : Int)) (IntKind.wrap IntKind.i64 (byteAt b (Int.toNat a)))) (4 : Int) > (((ByteArray.size b) : Nat) : Int)) = false → ((0 : Int) ≤ a ∧ (Int.toNat a ≤ (ByteArray.size b)) ∧ (0 : Int) ≤ ari BinOp.sub IntKind.i64 a (4 : Int) ∧ Int.toNat (ari BinOp.sub IntKind.i64 a (4 : Int)) ≤ Int.toNat a ∧ True) ∧ ((0 : Int) ≤ ari BinOp.add IntKind.i64 (ari BinOp.add IntKind.i64 a (1 : Int)) (IntKind.wrap IntKind.i64 (byteAt b (Int.toNat a))) ∧ (Int.toNat (ari BinOp.add IntKind.i64 (ari BinOp.add IntKind.i64 a (1 : Int)) (IntKind.wrap IntKind.i64 (byteAt b (Int.toNat a)))) ≤ (ByteArray.size b)) ∧ (0 : Int) ≤ a ∧ Int.toNat a ≤ Int.toNat (ari BinOp.add IntKind.i64 (ari BinOp.add IntKind.i64 a (1 : Int)) (IntKind.wrap IntKind.i64 (byteAt b (Int.toNat a)))) ∧ True) ∧ (ByteArray.size (ByteArray.extract b (Int.toNat (ari BinOp.sub IntKind.i64 a (4 : Int))) (Int.toNat a)) + ByteArray.size (ByteArray.extract b (Int.toNat a) (Int.toNat (ari BinOp.add IntKind.i64 (ari BinOp.add IntKind.i64 a (1 : Int)) (IntKind.wrap IntKind.i64 (byteAt b (Int.toNat a)))))) ≤ (1000000 : Nat) ∧ True) ∧ ((0 : Int) ≤ ari BinOp.add IntKind.i64 (ari BinOp.add IntKind.i64 a (1 : Int)) (IntKind.wrap IntKind.i64 (byteAt b (Int.toNat a))) ∧ (Int.toNat (ari BinOp.add IntKind.i64 (ari BinOp.add IntKind.i64 a (1 : Int)) (IntKind.wrap IntKind.i64 (byteAt b (Int.toNat a)))) ≤ (ByteArray.size b)) ∧ (0 : Int) ≤ ari BinOp.add IntKind.i64 a (1 : Int) ∧ Int.toNat (ari BinOp.add IntKind.i64 a (1 : Int)) ≤ Int.toNat (ari BinOp.add IntKind.i64 (ari BinOp.add IntKind.i64 a (1 : Int)) (IntKind.wrap IntKind.i64 (byteAt b (Int.toNat a)))) ∧ True) ∧ ((0 : Int) ≤ ari BinOp.add IntKind.i64 (ari BinOp.add IntKind.i64 (ari BinOp.add IntKind.i64 a (1 : Int)) (IntKind.wrap IntKind.i64 (byteAt b (Int.toNat a)))) (4 : Int) ∧ (Int.toNat (ari BinOp.add IntKind.i64 (ari BinOp.add IntKind.i64 (ari BinOp.add IntKind.i64 a (1 : Int)) (IntKind.wrap IntKind.i64 (byteAt b (Int.toNat a)))) (4 : Int)) ≤ (ByteArray.size b)) ∧ (0 : Int) ≤ a ∧ Int.toNat a ≤ Int.toNat (ari BinOp.add IntKind.i64 (ari BinOp.add IntKind.i64 (ari BinOp.add IntKind.i64 a (1 : Int)) (IntKind.wrap IntKind.i64 (byteAt b (Int.toNat a)))) (4 : Int)) ∧ True) ∧ (((match mkSB (false && false) !ByteArray.toList (smA (ByteArray.extract b (Int.toNat (ari BinOp.sub IntKind.i64 a (4 : Int))) (Int.toNat a)) (ByteArray.extract b (Int.toNat a) (Int.toNat (ari BinOp.add IntKind.i64 (ari BinOp.add IntKind.i64 a (1 : Int)) (IntKind.wrap IntKind.i64 (byteAt b (Int.toNat a))))))) == ByteArray.toList (ByteArray.extract b (Int.toNat a) (Int.toNat (ari BinOp.add IntKind.i64 (ari BinOp.add IntKind.i64 (ari BinOp.add IntKind.i64 a (1 : Int)) (IntKind.wrap IntKind.i64 (byteAt b (Int.toNat a)))) (4 : Int)))) with | SB.l b => b | SB.o b => b) == false) = true → (BytOk (Array.map (fun b => Value.int IntKind.u8 (↑(UInt8.toNat b) : Int)) (ByteArray.data (ByteArray.extract b (Int.toNat (ari BinOp.add IntKind.i64 a (1 : Int))) (Int.toNat (ari BinOp.add IntKind.i64 (ari BinOp.add IntKind.i64 a (1 : Int)) (IntKind.wrap IntKind.i64 (byteAt b (Int.toNat a)))))))) (0 : Nat) (ByteArray.size (ByteArray.extract b (Int.toNat (ari BinOp.add IntKind.i64 a (1 : Int))) (Int.toNat (ari BinOp.add IntKind.i64 (ari BinOp.add IntKind.i64 a (1 : Int)) (IntKind.wrap IntKind.i64 (byteAt b (Int.toNat a))))))) ∧ True) ∧ (((!(decide (ByteArray.size (ByteArray.extract b (Int.toNat (ari BinOp.add IntKind.i64 a (1 : Int))) (Int.toNat (ari BinOp.add IntKind.i64 (ari BinOp.add IntKind.i64 a (1 : Int)) (IntKind.wrap IntKind.i64 (byteAt b (Int.toNat a)))))) ≤ (4000 : Nat)) && !anyB (Array.map (fun b => Value.int IntKind.u8 (↑(UInt8.toNat b) : Int)) (ByteArray.data (ByteArray.extract b (Int.toNat (ari BinOp.add IntKind.i64 a (1 : Int))) (Int.toNat (ari BinOp.add IntKind.i64 (ari BinOp.add IntKind.i64 a (1 : Int)) (IntKind.wrap IntKind.i64 (byteAt b (Int.toNat a)))))))) (0 : Nat) (ByteArray.size (ByteArray.extract b (Int.toNat (ari BinOp.add IntKind.i64 a (1 : Int))) (Int.toNat (ari BinOp.add IntKind.i64 (ari BinOp.add IntKind.i64 a (1 : Int)) (IntKind.wrap IntKind.i64 (byteAt b (Int.toNat a))))))))) == false) = true → (decide (ari BinOp.add IntKind.i64 (0 : Int) ((((ByteArray.size (ByteArray.extract b (Int.toNat (ari BinOp.add IntKind.i64 a (1 : Int))) (Int.toNat (ari BinOp.add IntKind.i64 (ari BinOp.add IntKind.i64 a (1 : Int)) (IntKind.wrap IntKind.i64 (byteAt b (Int.toNat a))))))) : Nat) : Int)) > (4000 : Int)) = true → ok = true ∧ w = false ∧ P = byteAt (cB b) (0 : Nat) ∧ n = numB (cB b) ∧ Value.slice none (0 : Nat) (0 : Nat) = Value.slice none (0 : Nat) (0 : Nat) ∧ zF = z ∧ tn = decide (z < (((ByteArray.size b) : Nat) : Int)) ∧ (9 : TypeId) = (9 : TypeId) ∧ rs = rowP (cB b) (numB (cB b)) ∧ True) ∧ (decide (ari BinOp.add IntKind.i64 (0 : Int) ((((ByteArray.size (ByteArray.extract b (Int.toNat (ari BinOp.add IntKind.i64 a (1 : Int))) (Int.toNat (ari BinOp.add IntKind.i64 (ari BinOp.add IntKind.i64 a (1 : Int)) (IntKind.wrap IntKind.i64 (byteAt b (Int.toNat a))))))) : Nat) : Int)) > (4000 : Int)) = false → (decide (ByteArray.size (ByteArray.extract b (Int.toNat (ari BinOp.add IntKind.i64 a (1 : Int))) (Int.toNat (ari BinOp.add IntKind.i64 (ari BinOp.add IntKind.i64 a (1 : Int)) (IntKind.wrap IntKind.i64 (byteAt b (Int.toNat a)))))) = (0 : Nat)) = true → Q0 (ari BinOp.add IntKind.i64 (ari BinOp.add IntKind.i64 (ari BinOp.add IntKind.i64 a (1 : Int)) (IntKind.wrap IntKind.i64 (byteAt b (Int.toNat a)))) (4 : Int)) (ari BinOp.add IntKind.i64 z (ari BinOp.add IntKind.i64 (ari BinOp.add IntKind.i64 (1 : Int) ((((ByteArray.size (ByteArray.extract b (Int.toNat (ari BinOp.add IntKind.i64 a (1 : Int))) (Int.toNat (ari BinOp.add IntKind.i64 (ari BinOp.add IntKind.i64 a (1 : Int)) (IntKind.wrap IntKind.i64 (byteAt b (Int.toNat a))))))) : Nat) : Int))) (4 : Int))) ∧ CallKind.normal = CallKind.normal ∧ TodoOk (ren 0 [(0, 0), (1, 1), (2, 2), (3, 3), (4, 4), (5, 5), (6, 6), (7, 7), (8, 8)]) jrH0 jrH0 ∧ CallKind.normal = CallKind.normal ∧ TodoOk (ren 0 [(0, 0), (1, 1), (2, 2), (3, 3), (4, 4), (5, 5), (6, 6), (7, 7), (8, 8)]) jrT1 jrT1 ∧ Value.string b = Value.string b ∧ Value.string b = Value.string b ∧ Value.string b = Value.string b ∧ byteAt (cB b) (0 : Nat) = byteAt (cB b) (0 : Nat) ∧ numB (cB b) = numB (cB b) ∧ Value.slice none (0 : Nat) (0 : Nat) = Value.slice none (0 : Nat) (0 : Nat) ∧ (↑(endN b + 4) : Int) = (↑(endN b + 4) : Int) ∧ Fn.func (38 : Nat) = Fn.func (38 : Nat) ∧ byteAt (cB b) (0 : Nat) = byteAt (cB b) (0 : Nat) ∧ numB (cB b) = numB (cB b) ∧ Value.slice none (0 : Nat) (0 : Nat) = Value.slice none (0 : Nat) (0 : Nat) ∧ byteAt (cB b) (0 : Nat) = byteAt (cB b) (0 : Nat) ∧ numB (cB b) = numB (cB b) ∧ Value.slice none (0 : Nat) (0 : Nat) = Value.slice none (0 : Nat) (0 : Nat) ∧ (↑(endN b + 4) : Int) = (↑(endN b + 4) : Int) ∧ (↑(endN b + 4) : Int) = (↑(endN b + 4) : Int) ∧ byteAt (cB b) (0 : Nat) = byteAt (cB b) (0 : Nat) ∧ numB (cB b) = numB (cB b) ∧ Value.slice none (0 : Nat) (0 : Nat) = Value.slice none (0 : Nat) (0 : Nat) ∧ (↑(endN b + 4) : Int) = (↑(endN b + 4) : Int) ∧ (↑(endN b + 4) : Int) = (↑(endN b + 4) : Int) ∧ byteAt (cB b) (0 : Nat) = byteAt (cB b) (0 : Nat) ∧ numB (cB b) = numB (cB b) ∧ Value.slice none (0 : Nat) (0 : Nat) = Value.slice none (0 : Nat) (0 : Nat) ∧ (↑(endN b + 4) : Int) = (↑(endN b + 4) : Int) ∧ (↑(endN b + 4) : Int) = (↑(endN b + 4) : Int) ∧ Fn.func (30 : Nat) = Fn.func (30 : Nat) ∧ (39 : Nat) = (39 : Nat) ∧ Value.slice none (0 : Nat) (0 : Nat) = Value.slice none (0 : Nat) (0 : Nat) ∧ Value.slice none (0 : Nat) (0 : Nat) = Value.slice none (0 : Nat) (0 : Nat) ∧ (9 : TypeId) = (9 : TypeId) ∧ rowP (cB b) (numB (cB b)) = rowP (cB b) (numB (cB b)) ∧ (39 : Nat) = (39 : Nat) ∧ byteAt (cB b) (0 : Nat) = byteAt (cB b) (0 : Nat) ∧ numB (cB b) = numB (cB b) ∧ Value.slice none (0 : Nat) (0 : Nat) = Value.slice none (0 : Nat) (0 : Nat) ∧ ari BinOp.add IntKind.i64 z (ari BinOp.add IntKind.i64 (ari BinOp.add IntKind.i64 (1 : Int) ((((ByteArray.size (ByteArray.extract b (Int.toNat (ari BinOp.add IntKind.i64 a (1 : Int))) (Int.toNat (ari BinOp.add IntKind.i64 (ari BinOp.add IntKind.i64 a (1 : Int)) (IntKind.wrap IntKind.i64 (byteAt b (Int.toNat a))))))) : Nat) : Int))) (4 : Int)) = ari BinOp.add IntKind.i64 z (ari BinOp.add IntKind.i64 (ari BinOp.add IntKind.i64 (1 : Int) ((((ByteArray.size (ByteArray.extract b (Int.toNat (ari BinOp.add IntKind.i64 a (1 : Int))) (Int.toNat (ari BinOp.add IntKind.i64 (ari BinOp.add IntKind.i64 a (1 : Int)) (IntKind.wrap IntKind.i64 (byteAt b (Int.toNat a))))))) : Nat) : Int))) (4 : Int)) ∧ (9 : Nat) = (9 : Nat) ∧ Value.string b = Value.string b ∧ (32 : Nat) = (32 : Nat) ∧ byteAt (cB b) (0 : Nat) = byteAt (cB b) (0 : Nat) ∧ numB (cB b) = numB (cB b) ∧ Value.slice none (0 : Nat) (0 : Nat) = Value.slice none (0 : Nat) (0 : Nat) ∧ (43 : Nat) = (43 : Nat) ∧ Fn.func (30 : Nat) = Fn.func (30 : Nat) ∧ (3 : Nat) = (3 : Nat) ∧ ari BinOp.add IntKind.i64 (ari BinOp.add IntKind.i64 (ari BinOp.add IntKind.i64 a (1 : Int)) (IntKind.wrap IntKind.i64 (byteAt b (Int.toNat a)))) (4 : Int) = ari BinOp.add IntKind.i64 (ari BinOp.add IntKind.i64 (ari BinOp.add IntKind.i64 a (1 : Int)) (IntKind.wrap IntKind.i64 (byteAt b (Int.toNat a)))) (4 : Int) ∧ EqL jrLp jrLp ∧ Value.string b = Value.string b ∧ Value.string b = Value.string b ∧ Value.string b = Value.string b ∧ byteAt (cB b) (0 : Nat) = byteAt (cB b) (0 : Nat) ∧ numB (cB b) = numB (cB b) ∧ Value.slice none (0 : Nat) (0 : Nat) = Value.slice none (0 : Nat) (0 : Nat) ∧ (↑(endN b + 4) : Int) = (↑(endN b + 4) : Int) ∧ Fn.func (38 : Nat) = Fn.func (38 : Nat) ∧ byteAt (cB b) (0 : Nat) = byteAt (cB b) (0 : Nat) ∧ numB (cB b) = numB (cB b) ∧ Value.slice none (0 : Nat) (0 : Nat) = Value.slice none (0 : Nat) (0 : Nat) ∧ byteAt (cB b) (0 : Nat) = byteAt (cB b) (0 : Nat) ∧ numB (cB b) = numB (cB b) ∧ Value.slice none (0 : Nat) (0 : Nat) = Value.slice none (0 : Nat) (0 : Nat) ∧ (↑(endN b + 4) : Int) = (↑(endN b + 4) : Int) ∧ (↑(endN b + 4) : Int) = (↑(endN b + 4) : Int) ∧ byteAt (cB b) (0 : Nat) = byteAt (cB b) (0 : Nat) ∧ numB (cB b) = numB (cB b) ∧ Value.slice none (0 : Nat) (0 : Nat) = Value.slice none (0 : Nat) (0 : Nat) ∧ (↑(endN b + 4) : Int) = (↑(endN b + 4) : Int) ∧ (↑(endN b + 4) : Int) = (↑(endN b + 4) : Int) ∧ byteAt (cB b) (0 : Nat) = byteAt (cB b) (0 : Nat) ∧ numB (cB b) = numB (cB b) ∧ Value.slice none (0 : Nat) (0 : Nat) = Value.slice none (0 : Nat) (0 : Nat) ∧ (↑(endN b + 4) : Int) = (↑(endN b + 4) : Int) ∧ (↑(endN b + 4) : Int) = (↑(endN b + 4) : Int) ∧ Fn.func (30 : Nat) = Fn.func (30 : Nat) ∧ True) ∧ (decide (ByteArray.size (ByteArray.extract b (Int.toNat (ari BinOp.add IntKind.i64 a (1 : Int))) (Int.toNat (ari BinOp.add IntKind.i64 (ari BinOp.add IntKind.i64 a (1 : Int)) (IntKind.wrap IntKind.i64 (byteAt b (Int.toNat a)))))) = (0 : Nat)) = false → ((0 : Nat) < ByteArray.size (ByteArray.extract b (Int.toNat (ari BinOp.add IntKind.i64 a (1 : Int))) (Int.toNat (ari BinOp.add IntKind.i64 (ari BinOp.add IntKind.i64 a (1 : Int)) (IntKind.wrap IntKind.i64 (byteAt b (Int.toNat a)))))) ∧ (((0 : Nat) + ByteArray.size (ByteArray.extract b (Int.toNat (ari BinOp.add IntKind.i64 a (1 : Int))) (Int.toNat (ari BinOp.add IntKind.i64 (ari BinOp.add IntKind.i64 a (1 : Int)) (IntKind.wrap IntKind.i64 (byteAt b (Int.toNat a))))))) * 1 ≤ (140737488355328 : Nat) ∧ (0 : Nat) + ByteArray.size (ByteArray.extract b (Int.toNat (ari BinOp.add IntKind.i64 a (1 : Int))) (Int.toNat (ari BinOp.add IntKind.i64 (ari BinOp.add IntKind.i64 a (1 : Int)) (IntKind.wrap IntKind.i64 (byteAt b (Int.toNat a)))))) ≤ (140737488355328 : Nat)) ∧ True) ∧ Q1 (ari BinOp.add IntKind.i64 (ari BinOp.add IntKind.i64 (ari BinOp.add IntKind.i64 a (1 : Int)) (IntKind.wrap IntKind.i64 (byteAt b (Int.toNat a)))) (4 : Int)) (ari BinOp.add IntKind.i64 z (ari BinOp.add IntKind.i64 (ari BinOp.add IntKind.i64 (1 : Int) ((((ByteArray.size (ByteArray.extract b (Int.toNat (ari BinOp.add IntKind.i64 a (1 : Int))) (Int.toNat (ari BinOp.add IntKind.i64 (ari BinOp.add IntKind.i64 a (1 : Int)) (IntKind.wrap IntKind.i64 (byteAt b (Int.toNat a))))))) : Nat) : Int))) (4 : Int))) (ByteArray.size (ByteArray.extract b (Int.toNat (ari BinOp.add IntKind.i64 a (1 : Int))) (Int.toNat (ari BinOp.add IntKind.i64 (ari BinOp.add IntKind.i64 a (1 : Int)) (IntKind.wrap IntKind.i64 (byteAt b (Int.toNat a))))))) (Array.map (fun b => Value.int IntKind.u8 (↑(UInt8.toNat b) : Int)) (ByteArray.data (ByteArray.extract b (Int.toNat (ari BinOp.add IntKind.i64 a (1 : Int))) (Int.toNat (ari BinOp.add IntKind.i64 (ari BinOp.add IntKind.i64 a (1 : Int)) (IntKind.wrap IntKind.i64 (byteAt b (Int.toNat a)))))))) ∧ CallKind.normal = CallKind.normal ∧ TodoOk (ren 0 [(0, 0), (1, 1), (2, 2), (3, 3), (4, 4), (5, 5), (6, 6), (7, 7), (8, 8), (9, 10)]) jrH0 jrH0 ∧ CallKind.normal = CallKind.normal ∧ TodoOk (ren 0 [(0, 0), (1, 1), (2, 2), (3, 3), (4, 4), (5, 5), (6, 6), (7, 7), (8, 8), (9, 10)]) jrT1 jrT1 ∧ Value.string b = Value.string b ∧ Value.string b = Value.string b ∧ Value.string b = Value.string b ∧ byteAt (cB b) (0 : Nat) = byteAt (cB b) (0 : Nat) ∧ numB (cB b) = numB (cB b) ∧ Value.slice none (0 : Nat) (0 : Nat) = Value.slice none (0 : Nat) (0 : Nat) ∧ (↑(endN b + 4) : Int) = (↑(endN b + 4) : Int) ∧ Fn.func (38 : Nat) = Fn.func (38 : Nat) ∧ byteAt (cB b) (0 : Nat) = byteAt (cB b) (0 : Nat) ∧ numB (cB b) = numB (cB b) ∧ Value.slice none (0 : Nat) (0 : Nat) = Value.slice none (0 : Nat) (0 : Nat) ∧ byteAt (cB b) (0 : Nat) = byteAt (cB b) (0 : Nat) ∧ numB (cB b) = numB (cB b) ∧ Value.slice none (0 : Nat) (0 : Nat) = Value.slice none (0 : Nat) (0 : Nat) ∧ (↑(endN b + 4) : Int) = (↑(endN b + 4) : Int) ∧ (↑(endN b + 4) : Int) = (↑(endN b + 4) : Int) ∧ byteAt (cB b) (0 : Nat) = byteAt (cB b) (0 : Nat) ∧ numB (cB b) = numB (cB b) ∧ Value.slice none (0 : Nat) (0 : Nat) = Value.slice none (0 : Nat) (0 : Nat) ∧ (↑(endN b + 4) : Int) = (↑(endN b + 4) : Int) ∧ (↑(endN b + 4) : Int) = (↑(endN b + 4) : Int) ∧ byteAt (cB b) (0 : Nat) = byteAt (cB b) (0 : Nat) ∧ numB (cB b) = numB (cB b) ∧ Value.slice none (0 : Nat) (0 : Nat) = Value.slice none (0 : Nat) (0 : Nat) ∧ (↑(endN b + 4) : Int) = (↑(endN b + 4) : Int) ∧ (↑(endN b + 4) : Int) = (↑(endN b + 4) : Int) ∧ Fn.func (30 : Nat) = Fn.func (30 : Nat) ∧ (39 : Nat) = (39 : Nat) ∧ Value.slice none (0 : Nat) (0 : Nat) = Value.slice none (0 : Nat) (0 : Nat) ∧ Value.slice none (0 : Nat) (0 : Nat) = Value.slice none (0 : Nat) (0 : Nat) ∧ (9 : TypeId) = (9 : TypeId) ∧ rowP (cB b) (numB (cB b)) = rowP (cB b) (numB (cB b)) ∧ (39 : Nat) = (39 : Nat) ∧ byteAt (cB b) (0 : Nat) = byteAt (cB b) (0 : Nat) ∧ numB (cB b) = numB (cB b) ∧ ByteArray.size (ByteArray.extract b (Int.toNat (ari BinOp.add IntKind.i64 a (1 : Int))) (Int.toNat (ari BinOp.add IntKind.i64 (ari BinOp.add IntKind.i64 a (1 : Int)) (IntKind.wrap IntKind.i64 (byteAt b (Int.toNat a)))))) = ByteArray.size (ByteArray.extract b (Int.toNat (ari BinOp.add IntKind.i64 a (1 : Int))) (Int.toNat (ari BinOp.add IntKind.i64 (ari BinOp.add IntKind.i64 a (1 : Int)) (IntKind.wrap IntKind.i64 (byteAt b (Int.toNat a)))))) ∧ ari BinOp.add IntKind.i64 z (ari BinOp.add IntKind.i64 (ari BinOp.add IntKind.i64 (1 : Int) ((((ByteArray.size (ByteArray.extract b (Int.toNat (ari BinOp.add IntKind.i64 a (1 : Int))) (Int.toNat (ari BinOp.add IntKind.i64 (ari BinOp.add IntKind.i64 a (1 : Int)) (IntKind.wrap IntKind.i64 (byteAt b (Int.toNat a))))))) : Nat) : Int))) (4 : Int)) = ari BinOp.add IntKind.i64 z (ari BinOp.add IntKind.i64 (ari BinOp.add IntKind.i64 (1 : Int) ((((ByteArray.size (ByteArray.extract b (Int.toNat (ari BinOp.add IntKind.i64 a (1 : Int))) (Int.toNat (ari BinOp.add IntKind.i64 (ari BinOp.add IntKind.i64 a (1 : Int)) (IntKind.wrap IntKind.i64 (byteAt b (Int.toNat a))))))) : Nat) : Int))) (4 : Int)) ∧ (9 : Nat) = (9 : Nat) ∧ Value.string b = Value.string b ∧ (5 : TypeId) = (5 : Nat) ∧ Array.map (fun b => Value.int IntKind.u8 (↑(UInt8.toNat b) : Int)) (ByteArray.data (ByteArray.extract b (Int.toNat (ari BinOp.add IntKind.i64 a (1 : Int))) (Int.toNat (ari BinOp.add IntKind.i64 (ari BinOp.add IntKind.i64 a (1 : Int)) (IntKind.wrap IntKind.i64 (byteAt b (Int.toNat a))))))) = Array.map (fun b => Value.int IntKind.u8 (↑(UInt8.toNat b) : Int)) (ByteArray.data (ByteArray.extract b (Int.toNat (ari BinOp.add IntKind.i64 a (1 : Int))) (Int.toNat (ari BinOp.add IntKind.i64 (ari BinOp.add IntKind.i64 a (1 : Int)) (IntKind.wrap IntKind.i64 (byteAt b (Int.toNat a))))))) ∧ (32 : Nat) = (32 : Nat) ∧ byteAt (cB b) (0 : Nat) = byteAt (cB b) (0 : Nat) ∧ numB (cB b) = numB (cB b) ∧ Value.slice none (0 : Nat) (0 : Nat) = Value.slice none (0 : Nat) (0 : Nat) ∧ (43 : Nat) = (43 : Nat) ∧ Fn.func (30 : Nat) = Fn.func (30 : Nat) ∧ (3 : Nat) = (3 : Nat) ∧ ari BinOp.add IntKind.i64 (ari BinOp.add IntKind.i64 (ari BinOp.add IntKind.i64 a (1 : Int)) (IntKind.wrap IntKind.i64 (byteAt b (Int.toNat a)))) (4 : Int) = ari BinOp.add IntKind.i64 (ari BinOp.add IntKind.i64 (ari BinOp.add IntKind.i64 a (1 : Int)) (IntKind.wrap IntKind.i64 (byteAt b (Int.toNat a)))) (4 : Int) ∧ EqL jrLp jrLp ∧ Value.string b = Value.string b ∧ Value.string b = Value.string b ∧ Value.string b = Value.string b ∧ byteAt (cB b) (0 : Nat) = byteAt (cB b) (0 : Nat) ∧ numB (cB b) = numB (cB b) ∧ Value.slice none (0 : Nat) (0 : Nat) = Value.slice none (0 : Nat) (0 : Nat) ∧ (↑(endN b + 4) : Int) = (↑(endN b + 4) : Int) ∧ Fn.func (38 : Nat) = Fn.func (38 : Nat) ∧ byteAt (cB b) (0 : Nat) = byteAt (cB b) (0 : Nat) ∧ numB (cB b) = numB (cB b) ∧ Value.slice none (0 : Nat) (0 : Nat) = Value.slice none (0 : Nat) (0 : Nat) ∧ byteAt (cB b) (0 : Nat) = byteAt (cB b) (0 : Nat) ∧ numB (cB b) = numB (cB b) ∧ Value.slice none (0 : Nat) (0 : Nat) = Value.slice none (0 : Nat) (0 : Nat) ∧ (↑(endN b + 4) : Int) = (↑(endN b + 4) : Int) ∧ (↑(endN b + 4) : Int) = (↑(endN b + 4) : Int) ∧ byteAt (cB b) (0 : Nat) = byteAt (cB b) (0 : Nat) ∧ numB (cB b) = numB (cB b) ∧ Value.slice none (0 : Nat) (0 : Nat) = Value.slice none (0 : Nat) (0 : Nat) ∧ (↑(endN b + 4) : Int) = (↑(endN b + 4) : Int) ∧ (↑(endN b + 4) : Int) = (↑(endN b + 4) : Int) ∧ byteAt (cB b) (0 : Nat) = byteAt (cB b) (0 : Nat) ∧ numB (cB b) = numB (cB b) ∧ Value.slice none (0 : Nat) (0 : Nat) = Value.slice none (0 : Nat) (0 : Nat) ∧ (↑(endN b + 4) : Int) = (↑(endN b + 4) : Int) ∧ (↑(endN b + 4) : Int) = (↑(endN b + 4) : Int) ∧ Fn.func (30 : Nat) = Fn.func (30 : Nat) ∧ True))) ∧ (((!(decide (ByteArray.size (ByteArray.extract b (Int.toNat (ari BinOp.add IntKind.i64 a (1 : Int))) (Int.toNat (ari BinOp.add IntKind.i64 (ari BinOp.add IntKind.i64 a (1 : Int)) (IntKind.wrap IntKind.i64 (byteAt b (Int.toNat a)))))) ≤ (4000 : Nat)) && !anyB (Array.map (fun b => Value.int IntKind.u8 (↑(UInt8.toNat b) : Int)) (ByteArray.data (ByteArray.extract b (Int.toNat (ari BinOp.add IntKind.i64 a (1 : Int))) (Int.toNat (ari BinOp.add IntKind.i64 (ari BinOp.add IntKind.i64 a (1 : Int)) (IntKind.wrap IntKind.i64 (byteAt b (Int.toNat a)))))))) (0 : Nat) (ByteArray.size (ByteArray.extract b (Int.toNat (ari BinOp.add IntKind.i64 a (1 : Int))) (Int.toNat (ari BinOp.add IntKind.i64 (ari BinOp.add IntKind.i64 a (1 : Int)) (IntKind.wrap IntKind.i64 (byteAt b (Int.toNat a))))))))) == false) = false → ok = true ∧ w = false ∧ P = byteAt (cB b) (0 : Nat) ∧ n = numB (cB b) ∧ Value.slice none (0 : Nat) (0 : Nat) = Value.slice none (0 : Nat) (0 : Nat) ∧ zF = z ∧ tn = decide (z < (((ByteArray.size b) : Nat) : Int)) ∧ (9 : TypeId) = (9 : TypeId) ∧ rs = rowP (cB b) (numB (cB b)) ∧ True)) ∧ (((match mkSB (false && false) !ByteArray.toList (smA (ByteArray.extract b (Int.toNat (ari BinOp.sub IntKind.i64 a (4 : Int))) (Int.toNat a)) (ByteArray.extract b (Int.toNat a) (Int.toNat (ari BinOp.add IntKind.i64 (ari BinOp.add IntKind.i64 a (1 : Int)) (IntKind.wrap IntKind.i64 (byteAt b (Int.toNat a))))))) == ByteArray.toList (ByteArray.extract b (Int.toNat a) (Int.toNat (ari BinOp.add IntKind.i64 (ari BinOp.add IntKind.i64 (ari BinOp.add IntKind.i64 a (1 : Int)) (IntKind.wrap IntKind.i64 (byteAt b (Int.toNat a)))) (4 : Int)))) with | SB.l b => b | SB.o b => b) == false) = false → ok = true ∧ w = false ∧ P = byteAt (cB b) (0 : Nat) ∧ n = numB (cB b) ∧ Value.slice none (0 : Nat) (0 : Nat) = Value.slice none (0 : Nat) (0 : Nat) ∧ zF = z ∧ tn = decide (z < (((ByteArray.size b) : Nat) : Int)) ∧ (9 : TypeId) = (9 : TypeId) ∧ rs = rowP (cB b) (numB (cB b)) ∧ True))) ∧ ((decide (IntKind.wrap IntKind.i64 (byteAt b (Int.toNat a)) > (200 : Int)) == false) = false → ok = true ∧ w = false ∧ P = byteAt (cB b) (0 : Nat) ∧ n = numB (cB b) ∧ Value.slice none (0 : Nat) (0 : Nat) = Value.slice none (0 : Nat) (0 : Nat) ∧ zF = z ∧ tn = decide (z < (((ByteArray.size b) : Nat) : Int)) ∧ (9 : TypeId) = (9 : TypeId) ∧ rs = rowP (cB b) (numB (cB b)) ∧ True)) ∧ ((decide (IntKind.wrap IntKind.i64 (byteAt b (Int.toNat a)) < (1 : Int)) == false) = false → ok = true ∧ w = false ∧ P = byteAt (cB b) (0 : Nat) ∧ n = numB (cB b) ∧ Value.slice none (0 : Nat) (0 : Nat) = Value.slice none (0 : Nat) (0 : Nat) ∧ zF = z ∧ tn = decide (z < (((ByteArray.size b) : Nat) : Int)) ∧ (9 : TypeId) = (9 : TypeId) ∧ rs = rowP (cB b) (numB (cB b)) ∧ True)) ∧ (decide (a < (((ByteArray.size b) : Nat) : Int)) = false → ok = true ∧ w = false ∧ P = byteAt (cB b) (0 : Nat) ∧ n = numB (cB b) ∧ Value.slice none (0 : Nat) (0 : Nat) = Value.slice none (0 : Nat) (0 : Nat) ∧ zF = z ∧ tn = decide (z < (((ByteArray.size b) : Nat) : Int)) ∧ (9 : TypeId) = (9 : TypeId) ∧ rs = rowP (cB b) (numB (cB b)) ∧ True)) := by kernel_rfl
theorem k_step (b : ByteArray) (a z : Int) (k : Nat) (vs : Array Value) (ok w : Bool) (P : Int) (n kF : Nat) (zF : Int) (tn : Bool) (rs vsF : Array Value) (Q0 : Int → Int → Prop) (Q1 : Int → Int → Nat → Array Value → Prop) : (jrS1 b a z k vs).vc (reA ok w P n kF zF tn rs vsF) (jrN b Q0 Q1) =
    ((decide (a < (((ByteArray.size b) : Nat) : Int)) = true → (((0 : Int) ≤ a ∧ a < (↑((ByteArray.size b)) : Int)) ∧ True) ∧ ((decide (IntKind.wrap IntKind.i64 (byteAt b (Int.toNat a)) < (1 : Int)) == false) = true → ((decide (IntKind.wrap IntKind.i64 (byteAt b (Int.toNat a)) > (200 : Int)) == false) = true → (decide (ari BinOp.add IntKind.i64 (ari BinOp.add IntKind.i64 (ari BinOp.add IntKind.i64 a (1 : Int)) (IntKind.wrap IntKind.i64 (byteAt b (Int.toNat a)))) (4 : Int) > (((ByteArray.size b) : Nat) : Int)) = true → ok = true ∧ w = true ∧ P = byteAt (cB b) (0 : Nat) ∧ n = numB (cB b) ∧ kF = k ∧ zF = z ∧ tn = decide (z < (((ByteArray.size b) : Nat) : Int)) ∧ (9 : TypeId) = (9 : TypeId) ∧ rs = rowP (cB b) (numB (cB b)) ∧ (5 : TypeId) = (5 : TypeId) ∧ vsF = vs ∧ True) ∧ (decide (ari BinOp.add IntKind.i64 (ari BinOp.add IntKind.i64 (ari BinOp.add IntKind.i64 a (1 : Int)) (IntKind.wrap IntKind.i64 (byteAt b (Int.toNat a)))) (4 : Int) > (((ByteArray.size b) : Nat) : Int)) = false → ((0 : Int) ≤ a ∧ (Int.toNat a ≤ (ByteArray.size b)) ∧ (0 : Int) ≤ ari BinOp.sub IntKind.i64 a (4 : Int) ∧ Int.toNat (ari BinOp.sub IntKind.i64 a (4 : Int)) ≤ Int.toNat a ∧ True) ∧ ((0 : Int) ≤ ari BinOp.add IntKind.i64 (ari BinOp.add IntKind.i64 a (1 : Int)) (IntKind.wrap IntKind.i64 (byteAt b (Int.toNat a))) ∧ (Int.toNat (ari BinOp.add IntKind.i64 (ari BinOp.add IntKind.i64 a (1 : Int)) (IntKind.wrap IntKind.i64 (byteAt b (Int.toNat a)))) ≤ (ByteArray.size b)) ∧ (0 : Int) ≤ a ∧ Int.toNat a ≤ Int.toNat (ari BinOp.add IntKind.i64 (ari BinOp.add IntKind.i64 a (1 : Int)) (IntKind.wrap IntKind.i64 (byteAt b (Int.toNat a)))) ∧ True) ∧ (ByteArray.size (ByteArray.extract b (Int.toNat (ari BinOp.sub IntKind.i64 a (4 : Int))) (Int.toNat a)) + ByteArray.size (ByteArray.extract b (Int.toNat a) (Int.toNat (ari BinOp.add IntKind.i64 (ari BinOp.add IntKind.i64 a (1 : Int)) (IntKind.wrap IntKind.i64 (byteAt b (Int.toNat a)))))) ≤ (1000000 : Nat) ∧ True) ∧ ((0 : Int) ≤ ari BinOp.add IntKind.i64 (ari BinOp.add IntKind.i64 a (1 : Int)) (IntKind.wrap IntKind.i64 (byteAt b (Int.toNat a))) ∧ (Int.toNat (ari BinOp.add IntKind.i64 (ari BinOp.add IntKind.i64 a (1 : Int)) (IntKind.wrap IntKind.i64 (byteAt b (Int.toNat a)))) ≤ (ByteArray.size b)) ∧ (0 : Int) ≤ ari BinOp.add IntKind.i64 a (1 : Int) ∧ Int.toNat (ari BinOp.add IntKind.i64 a (1 : Int)) ≤ Int.toNat (ari BinOp.add IntKind.i64 (ari BinOp.add IntKind.i64 a (1 : Int)) (IntKind.wrap IntKind.i64 (byteAt b (Int.toNat a)))) ∧ True) ∧ ((0 : Int) ≤ ari BinOp.add IntKind.i64 (ari BinOp.add IntKind.i64 (ari BinOp.add IntKind.i64 a (1 : Int)) (IntKind.wrap IntKind.i64 (byteAt b (Int.toNat a)))) (4 : Int) ∧ (Int.toNat (ari BinOp.add IntKind.i64 (ari BinOp.add IntKind.i64 (ari BinOp.add IntKind.i64 a (1 : Int)) (IntKind.wrap IntKind.i64 (byteAt b (Int.toNat a)))) (4 : Int)) ≤ (ByteArray.size b)) ∧ (0 : Int) ≤ a ∧ Int.toNat a ≤ Int.toNat (ari BinOp.add IntKind.i64 (ari BinOp.add IntKind.i64 (ari BinOp.add IntKind.i64 a (1 : Int)) (IntKind.wrap IntKind.i64 (byteAt b (Int.toNat a)))) (4 : Int)) ∧ True) ∧ (((match mkSB (false && false) !ByteArray.toList (smA (ByteArray.extract b (Int.toNat (ari BinOp.sub IntKind.i64 a (4 : Int))) (Int.toNat a)) (ByteArray.extract b (Int.toNat a) (Int.toNat (ari BinOp.add IntKind.i64 (ari BinOp.add IntKind.i64 a (1 : Int)) (IntKind.wrap IntKind.i64 (byteAt b (Int.toNat a))))))) == ByteArray.toList (ByteArray.extract b (Int.toNat a) (Int.toNat (ari BinOp.add IntKind.i64 (ari BinOp.add IntKind.i64 (ari BinOp.add IntKind.i64 a (1 : Int)) (IntKind.wrap IntKind.i64 (byteAt b (Int.toNat a)))) (4 : Int)))) with | SB.l b => b | SB.o b => b) == false) = true → (BytOk (Array.map (fun b => Value.int IntKind.u8 (↑(UInt8.toNat b) : Int)) (ByteArray.data (ByteArray.extract b (Int.toNat (ari BinOp.add IntKind.i64 a (1 : Int))) (Int.toNat (ari BinOp.add IntKind.i64 (ari BinOp.add IntKind.i64 a (1 : Int)) (IntKind.wrap IntKind.i64 (byteAt b (Int.toNat a)))))))) (0 : Nat) (ByteArray.size (ByteArray.extract b (Int.toNat (ari BinOp.add IntKind.i64 a (1 : Int))) (Int.toNat (ari BinOp.add IntKind.i64 (ari BinOp.add IntKind.i64 a (1 : Int)) (IntKind.wrap IntKind.i64 (byteAt b (Int.toNat a))))))) ∧ True) ∧ (((!(decide (ByteArray.size (ByteArray.extract b (Int.toNat (ari BinOp.add IntKind.i64 a (1 : Int))) (Int.toNat (ari BinOp.add IntKind.i64 (ari BinOp.add IntKind.i64 a (1 : Int)) (IntKind.wrap IntKind.i64 (byteAt b (Int.toNat a)))))) ≤ (4000 : Nat)) && !anyB (Array.map (fun b => Value.int IntKind.u8 (↑(UInt8.toNat b) : Int)) (ByteArray.data (ByteArray.extract b (Int.toNat (ari BinOp.add IntKind.i64 a (1 : Int))) (Int.toNat (ari BinOp.add IntKind.i64 (ari BinOp.add IntKind.i64 a (1 : Int)) (IntKind.wrap IntKind.i64 (byteAt b (Int.toNat a)))))))) (0 : Nat) (ByteArray.size (ByteArray.extract b (Int.toNat (ari BinOp.add IntKind.i64 a (1 : Int))) (Int.toNat (ari BinOp.add IntKind.i64 (ari BinOp.add IntKind.i64 a (1 : Int)) (IntKind.wrap IntKind.i64 (byteAt b (Int.toNat a))))))))) == false) = true → (decide (ari BinOp.add IntKind.i64 (↑k : Int) ((((ByteArray.size (ByteArray.extract b (Int.toNat (ari BinOp.add IntKind.i64 a (1 : Int))) (Int.toNat (ari BinOp.add IntKind.i64 (ari BinOp.add IntKind.i64 a (1 : Int)) (IntKind.wrap IntKind.i64 (byteAt b (Int.toNat a))))))) : Nat) : Int)) > (4000 : Int)) = true → ok = true ∧ w = true ∧ P = byteAt (cB b) (0 : Nat) ∧ n = numB (cB b) ∧ kF = k ∧ zF = z ∧ tn = decide (z < (((ByteArray.size b) : Nat) : Int)) ∧ (9 : TypeId) = (9 : TypeId) ∧ rs = rowP (cB b) (numB (cB b)) ∧ (5 : TypeId) = (5 : TypeId) ∧ vsF = vs ∧ True) ∧ (decide (ari BinOp.add IntKind.i64 (↑k : Int) ((((ByteArray.size (ByteArray.extract b (Int.toNat (ari BinOp.add IntKind.i64 a (1 : Int))) (Int.toNat (ari BinOp.add IntKind.i64 (ari BinOp.add IntKind.i64 a (1 : Int)) (IntKind.wrap IntKind.i64 (byteAt b (Int.toNat a))))))) : Nat) : Int)) > (4000 : Int)) = false → (((k + ByteArray.size (ByteArray.extract b (Int.toNat (ari BinOp.add IntKind.i64 a (1 : Int))) (Int.toNat (ari BinOp.add IntKind.i64 (ari BinOp.add IntKind.i64 a (1 : Int)) (IntKind.wrap IntKind.i64 (byteAt b (Int.toNat a))))))) * 1 ≤ (140737488355328 : Nat) ∧ k + ByteArray.size (ByteArray.extract b (Int.toNat (ari BinOp.add IntKind.i64 a (1 : Int))) (Int.toNat (ari BinOp.add IntKind.i64 (ari BinOp.add IntKind.i64 a (1 : Int)) (IntKind.wrap IntKind.i64 (byteAt b (Int.toNat a)))))) ≤ (140737488355328 : Nat)) ∧ k * 1 = Array.size vs ∧ True) ∧ Q1 (ari BinOp.add IntKind.i64 (ari BinOp.add IntKind.i64 (ari BinOp.add IntKind.i64 a (1 : Int)) (IntKind.wrap IntKind.i64 (byteAt b (Int.toNat a)))) (4 : Int)) (ari BinOp.add IntKind.i64 z (ari BinOp.add IntKind.i64 (ari BinOp.add IntKind.i64 (1 : Int) ((((ByteArray.size (ByteArray.extract b (Int.toNat (ari BinOp.add IntKind.i64 a (1 : Int))) (Int.toNat (ari BinOp.add IntKind.i64 (ari BinOp.add IntKind.i64 a (1 : Int)) (IntKind.wrap IntKind.i64 (byteAt b (Int.toNat a))))))) : Nat) : Int))) (4 : Int))) (k + ByteArray.size (ByteArray.extract b (Int.toNat (ari BinOp.add IntKind.i64 a (1 : Int))) (Int.toNat (ari BinOp.add IntKind.i64 (ari BinOp.add IntKind.i64 a (1 : Int)) (IntKind.wrap IntKind.i64 (byteAt b (Int.toNat a))))))) (vs ++ Array.map (fun b => Value.int IntKind.u8 (↑(UInt8.toNat b) : Int)) (ByteArray.data (ByteArray.extract b (Int.toNat (ari BinOp.add IntKind.i64 a (1 : Int))) (Int.toNat (ari BinOp.add IntKind.i64 (ari BinOp.add IntKind.i64 a (1 : Int)) (IntKind.wrap IntKind.i64 (byteAt b (Int.toNat a)))))))) ∧ CallKind.normal = CallKind.normal ∧ TodoOk (ren 0 [(0, 0), (1, 1), (2, 2), (3, 3), (4, 4), (5, 5), (6, 6), (7, 7), (8, 8), (9, 11)]) jrH0 jrH0 ∧ CallKind.normal = CallKind.normal ∧ TodoOk (ren 0 [(0, 0), (1, 1), (2, 2), (3, 3), (4, 4), (5, 5), (6, 6), (7, 7), (8, 8), (9, 11)]) jrT1 jrT1 ∧ Value.string b = Value.string b ∧ Value.string b = Value.string b ∧ Value.string b = Value.string b ∧ byteAt (cB b) (0 : Nat) = byteAt (cB b) (0 : Nat) ∧ numB (cB b) = numB (cB b) ∧ Value.slice none (0 : Nat) (0 : Nat) = Value.slice none (0 : Nat) (0 : Nat) ∧ (↑(endN b + 4) : Int) = (↑(endN b + 4) : Int) ∧ Fn.func (38 : Nat) = Fn.func (38 : Nat) ∧ byteAt (cB b) (0 : Nat) = byteAt (cB b) (0 : Nat) ∧ numB (cB b) = numB (cB b) ∧ Value.slice none (0 : Nat) (0 : Nat) = Value.slice none (0 : Nat) (0 : Nat) ∧ byteAt (cB b) (0 : Nat) = byteAt (cB b) (0 : Nat) ∧ numB (cB b) = numB (cB b) ∧ Value.slice none (0 : Nat) (0 : Nat) = Value.slice none (0 : Nat) (0 : Nat) ∧ (↑(endN b + 4) : Int) = (↑(endN b + 4) : Int) ∧ (↑(endN b + 4) : Int) = (↑(endN b + 4) : Int) ∧ byteAt (cB b) (0 : Nat) = byteAt (cB b) (0 : Nat) ∧ numB (cB b) = numB (cB b) ∧ Value.slice none (0 : Nat) (0 : Nat) = Value.slice none (0 : Nat) (0 : Nat) ∧ (↑(endN b + 4) : Int) = (↑(endN b + 4) : Int) ∧ (↑(endN b + 4) : Int) = (↑(endN b + 4) : Int) ∧ byteAt (cB b) (0 : Nat) = byteAt (cB b) (0 : Nat) ∧ numB (cB b) = numB (cB b) ∧ Value.slice none (0 : Nat) (0 : Nat) = Value.slice none (0 : Nat) (0 : Nat) ∧ (↑(endN b + 4) : Int) = (↑(endN b + 4) : Int) ∧ (↑(endN b + 4) : Int) = (↑(endN b + 4) : Int) ∧ Fn.func (30 : Nat) = Fn.func (30 : Nat) ∧ (39 : Nat) = (39 : Nat) ∧ Value.slice none (0 : Nat) (0 : Nat) = Value.slice none (0 : Nat) (0 : Nat) ∧ Value.slice none (0 : Nat) (0 : Nat) = Value.slice none (0 : Nat) (0 : Nat) ∧ (9 : TypeId) = (9 : TypeId) ∧ rowP (cB b) (numB (cB b)) = rowP (cB b) (numB (cB b)) ∧ (39 : Nat) = (39 : Nat) ∧ byteAt (cB b) (0 : Nat) = byteAt (cB b) (0 : Nat) ∧ numB (cB b) = numB (cB b) ∧ k + ByteArray.size (ByteArray.extract b (Int.toNat (ari BinOp.add IntKind.i64 a (1 : Int))) (Int.toNat (ari BinOp.add IntKind.i64 (ari BinOp.add IntKind.i64 a (1 : Int)) (IntKind.wrap IntKind.i64 (byteAt b (Int.toNat a)))))) = k + ByteArray.size (ByteArray.extract b (Int.toNat (ari BinOp.add IntKind.i64 a (1 : Int))) (Int.toNat (ari BinOp.add IntKind.i64 (ari BinOp.add IntKind.i64 a (1 : Int)) (IntKind.wrap IntKind.i64 (byteAt b (Int.toNat a)))))) ∧ ari BinOp.add IntKind.i64 z (ari BinOp.add IntKind.i64 (ari BinOp.add IntKind.i64 (1 : Int) ((((ByteArray.size (ByteArray.extract b (Int.toNat (ari BinOp.add IntKind.i64 a (1 : Int))) (Int.toNat (ari BinOp.add IntKind.i64 (ari BinOp.add IntKind.i64 a (1 : Int)) (IntKind.wrap IntKind.i64 (byteAt b (Int.toNat a))))))) : Nat) : Int))) (4 : Int)) = ari BinOp.add IntKind.i64 z (ari BinOp.add IntKind.i64 (ari BinOp.add IntKind.i64 (1 : Int) ((((ByteArray.size (ByteArray.extract b (Int.toNat (ari BinOp.add IntKind.i64 a (1 : Int))) (Int.toNat (ari BinOp.add IntKind.i64 (ari BinOp.add IntKind.i64 a (1 : Int)) (IntKind.wrap IntKind.i64 (byteAt b (Int.toNat a))))))) : Nat) : Int))) (4 : Int)) ∧ (9 : Nat) = (9 : Nat) ∧ Value.string b = Value.string b ∧ (5 : TypeId) = (5 : Nat) ∧ vs ++ Array.map (fun b => Value.int IntKind.u8 (↑(UInt8.toNat b) : Int)) (ByteArray.data (ByteArray.extract b (Int.toNat (ari BinOp.add IntKind.i64 a (1 : Int))) (Int.toNat (ari BinOp.add IntKind.i64 (ari BinOp.add IntKind.i64 a (1 : Int)) (IntKind.wrap IntKind.i64 (byteAt b (Int.toNat a))))))) = vs ++ Array.map (fun b => Value.int IntKind.u8 (↑(UInt8.toNat b) : Int)) (ByteArray.data (ByteArray.extract b (Int.toNat (ari BinOp.add IntKind.i64 a (1 : Int))) (Int.toNat (ari BinOp.add IntKind.i64 (ari BinOp.add IntKind.i64 a (1 : Int)) (IntKind.wrap IntKind.i64 (byteAt b (Int.toNat a))))))) ∧ (32 : Nat) = (32 : Nat) ∧ byteAt (cB b) (0 : Nat) = byteAt (cB b) (0 : Nat) ∧ numB (cB b) = numB (cB b) ∧ Value.slice none (0 : Nat) (0 : Nat) = Value.slice none (0 : Nat) (0 : Nat) ∧ (43 : Nat) = (43 : Nat) ∧ Fn.func (30 : Nat) = Fn.func (30 : Nat) ∧ (3 : Nat) = (3 : Nat) ∧ ari BinOp.add IntKind.i64 (ari BinOp.add IntKind.i64 (ari BinOp.add IntKind.i64 a (1 : Int)) (IntKind.wrap IntKind.i64 (byteAt b (Int.toNat a)))) (4 : Int) = ari BinOp.add IntKind.i64 (ari BinOp.add IntKind.i64 (ari BinOp.add IntKind.i64 a (1 : Int)) (IntKind.wrap IntKind.i64 (byteAt b (Int.toNat a)))) (4 : Int) ∧ EqL jrLp jrLp ∧ Value.string b = Value.string b ∧ Value.string b = Value.string b ∧ Value.string b = Value.string b ∧ byteAt (cB b) (0 : Nat) = byteAt (cB b) (0 : Nat) ∧ numB (cB b) = numB (cB b) ∧ Value.slice none (0 : Nat) (0 : Nat) = Value.slice none (0 : Nat) (0 : Nat) ∧ (↑(endN b + 4) : Int) = (↑(endN b + 4) : Int) ∧ Fn.func (38 : Nat) = Fn.func (38 : Nat) ∧ byteAt (cB b) (0 : Nat) = byteAt (cB b) (0 : Nat) ∧ numB (cB b) = numB (cB b) ∧ Value.slice none (0 : Nat) (0 : Nat) = Value.slice none (0 : Nat) (0 : Nat) ∧ byteAt (cB b) (0 : Nat) = byteAt (cB b) (0 : Nat) ∧ numB (cB b) = numB (cB b) ∧ Value.slice none (0 : Nat) (0 : Nat) = Value.slice none (0 : Nat) (0 : Nat) ∧ (↑(endN b + 4) : Int) = (↑(endN b + 4) : Int) ∧ (↑(endN b + 4) : Int) = (↑(endN b + 4) : Int) ∧ byteAt (cB b) (0 : Nat) = byteAt (cB b) (0 : Nat) ∧ numB (cB b) = numB (cB b) ∧ Value.slice none (0 : Nat) (0 : Nat) = Value.slice none (0 : Nat) (0 : Nat) ∧ (↑(endN b + 4) : Int) = (↑(endN b + 4) : Int) ∧ (↑(endN b + 4) : Int) = (↑(endN b + 4) : Int) ∧ byteAt (cB b) (0 : Nat) = byteAt (cB b) (0 : Nat) ∧ numB (cB b) = numB (cB b) ∧ Value.slice none (0 : Nat) (0 : Nat) = Value.slice none (0 : Nat) (0 : Nat) ∧ (↑(endN b + 4) : Int) = (↑(endN b + 4) : Int) ∧ (↑(endN b + 4) : Int) = (↑(endN b + 4) : Int) ∧ Fn.func (30 : Nat) = Fn.func (30 : Nat) ∧ True)) ∧ (((!(decide (ByteArray.size (ByteArray.extract b (Int.toNat (ari BinOp.add IntKind.i64 a (1 : Int))) (Int.toNat (ari BinOp.add IntKind.i64 (ari BinOp.add IntKind.i64 a (1 : Int)) (IntKind.wrap IntKind.i64 (byteAt b (Int.toNat a)))))) ≤ (4000 : Nat)) && !anyB (Array.map (fun b => Value.int IntKind.u8 (↑(UInt8.toNat b) : Int)) (ByteArray.data (ByteArray.extract b (Int.toNat (ari BinOp.add IntKind.i64 a (1 : Int))) (Int.toNat (ari BinOp.add IntKind.i64 (ari BinOp.add IntKind.i64 a (1 : Int)) (IntKind.wrap IntKind.i64 (byteAt b (Int.toNat a)))))))) (0 : Nat) (ByteArray.size (ByteArray.extract b (Int.toNat (ari BinOp.add IntKind.i64 a (1 : Int))) (Int.toNat (ari BinOp.add IntKind.i64 (ari BinOp.add IntKind.i64 a (1 : Int)) (IntKind.wrap IntKind.i64 (byteAt b (Int.toNat a))))))))) == false) = false → ok = true ∧ w = true ∧ P = byteAt (cB b) (0 : Nat) ∧ n = numB (cB b) ∧ kF = k ∧ zF = z ∧ tn = decide (z < (((ByteArray.size b) : Nat) : Int)) ∧ (9 : TypeId) = (9 : TypeId) ∧ rs = rowP (cB b) (numB (cB b)) ∧ (5 : TypeId) = (5 : TypeId) ∧ vsF = vs ∧ True)) ∧ (((match mkSB (false && false) !ByteArray.toList (smA (ByteArray.extract b (Int.toNat (ari BinOp.sub IntKind.i64 a (4 : Int))) (Int.toNat a)) (ByteArray.extract b (Int.toNat a) (Int.toNat (ari BinOp.add IntKind.i64 (ari BinOp.add IntKind.i64 a (1 : Int)) (IntKind.wrap IntKind.i64 (byteAt b (Int.toNat a))))))) == ByteArray.toList (ByteArray.extract b (Int.toNat a) (Int.toNat (ari BinOp.add IntKind.i64 (ari BinOp.add IntKind.i64 (ari BinOp.add IntKind.i64 a (1 : Int)) (IntKind.wrap IntKind.i64 (byteAt b (Int.toNat a)))) (4 : Int)))) with | SB.l b => b | SB.o b => b) == false) = false → ok = true ∧ w = true ∧ P = byteAt (cB b) (0 : Nat) ∧ n = numB (cB b) ∧ kF = k ∧ zF = z ∧ tn = decide (z < (((ByteArray.size b) : Nat) : Int)) ∧ (9 : TypeId) = (9 : TypeId) ∧ rs = rowP (cB b) (numB (cB b)) ∧ (5 : TypeId) = (5 : TypeId) ∧ vsF = vs ∧ True))) ∧ ((decide (IntKind.wrap IntKind.i64 (byteAt b (Int.toNat a)) > (200 : Int)) == false) = false → ok = true ∧ w = true ∧ P = byteAt (cB b) (0 : Nat) ∧ n = numB (cB b) ∧ kF = k ∧ zF = z ∧ tn = decide (z < (((ByteArray.size b) : Nat) : Int)) ∧ (9 : TypeId) = (9 : TypeId) ∧ rs = rowP (cB b) (numB (cB b)) ∧ (5 : TypeId) = (5 : TypeId) ∧ vsF = vs ∧ True)) ∧ ((decide (IntKind.wrap IntKind.i64 (byteAt b (Int.toNat a)) < (1 : Int)) == false) = false → ok = true ∧ w = true ∧ P = byteAt (cB b) (0 : Nat) ∧ n = numB (cB b) ∧ kF = k ∧ zF = z ∧ tn = decide (z < (((ByteArray.size b) : Nat) : Int)) ∧ (9 : TypeId) = (9 : TypeId) ∧ rs = rowP (cB b) (numB (cB b)) ∧ (5 : TypeId) = (5 : TypeId) ∧ vsF = vs ∧ True)) ∧ (decide (a < (((ByteArray.size b) : Nat) : Int)) = false → ok = true ∧ w = true ∧ P = byteAt (cB b) (0 : Nat) ∧ n = numB (cB b) ∧ kF = k ∧ zF = z ∧ tn = decide (z < (((ByteArray.size b) : Nat) : Int)) ∧ (9 : TypeId) = (9 : TypeId) ∧ rs = rowP (cB b) (numB (cB b)) ∧ (5 : TypeId) = (5 : TypeId) ∧ vsF = vs ∧ True)) := by kernel_rfl
end Go.Proofs.Ytapkbgccbmjfaaa
/- Of journal: the records that Read goes over, and its rounds behind the first. No condition. -/
namespace Go.Proofs.Ytapkbgccbmjfaaa
set_option linter.unusedSectionVars false
set_option linter.unusedVariables false
set_option maxRecDepth 100000
set_option maxHeartbeats 2000000
theorem conR_ok (g : FuncId) (l : List SV) (m : SMem) (t : Tree) (h : conR g l m = some t) : Con E0 g l m t := by
  unfold conR at h
  split at h
  · exact smT_ok h
  · exact hdT_ok h
  · exact mpT_ok h
  · cases h
theorem ER_ok : EnvOk ER := EnvOk.with E0_ok _ _ conR_ok
def recN (b : ByteArray) (a : Nat) : Nat := (byteAt b a).toNat
def recE (b : ByteArray) (a : Nat) : Nat := a + 1 + recN b a
def recP (b : ByteArray) (a : Nat) : ByteArray := b.extract (a + 1) (recE b a)
def recW (b : ByteArray) (a : Nat) : Bool := decide (1 ≤ recN b a ∧ recN b a ≤ 200 ∧ recE b a + 4 ≤ b.size)
def recS (b : ByteArray) (a : Nat) : Bool := (smA (b.extract (a - 4) a) (b.extract a (recE b a))).toList == (b.extract a (recE b a + 4)).toList
def recOk (b : ByteArray) (a k : Nat) : Bool := decide (a < b.size) && recW b a && recS b a && !anyB (celA (recP b a)) 0 (recP b a).size && decide (k + recN b a ≤ 4000)
def scanA (b : ByteArray) : Nat → Nat → ByteArray → Nat × ByteArray
  | 0, a, q => (a, q)
  | K + 1, a, q => if recOk b a q.size then scanA b K (recE b a + 4) (q ++ recP b a) else (a, q)
theorem scan_no {b : ByteArray} {a : Nat} {q : ByteArray} (h : recOk b a q.size = false) (K : Nat) : scanA b K a q = (a, q) := by
  cases K with
  | zero => rfl
  | succ K => unfold scanA; rw [h]; rfl
theorem scan_yes {b : ByteArray} {a : Nat} {q : ByteArray} (h : recOk b a q.size = true) (K : Nat) : scanA b (K + 1) a q = scanA b K (recE b a + 4) (q ++ recP b a) := by
  show (if recOk b a q.size then _ else _) = _
  rw [h]; rfl
theorem celA_app (p q : ByteArray) : celA (p ++ q) = celA p ++ celA q := by
  unfold celA
  rw [ByteArray.data_append, Array.map_append]
theorem recP_size {b : ByteArray} {a : Nat} (h : recE b a ≤ b.size) : (recP b a).size = recN b a := by
  unfold recP
  rw [ext_size]
  unfold recE at *
  omega
theorem recN_le (b : ByteArray) (a : Nat) : recN b a ≤ 255 := by
  have := byteAt_range b a
  unfold recN
  omega
theorem rec_eqs (b : ByteArray) (a : Nat) (h : a ≤ 1000000) (h4 : 4 ≤ a) : IntKind.wrap .i64 (byteAt b a) = (recN b a : Int) ∧ ari .add .i64 (a : Int) 1 = ((a + 1 : Nat) : Int) ∧ ari .add .i64 ((a + 1 : Nat) : Int) (recN b a : Int) = (recE b a : Int) ∧ ari .add .i64 (recE b a : Int) 4 = ((recE b a + 4 : Nat) : Int) ∧ ari .sub .i64 (a : Int) 4 = ((a - 4 : Nat) : Int) := by
  have r := byteAt_range b a
  have rn := recN_le b a
  refine ⟨?_, ?_, ?_, ?_, ?_⟩
  · rw [Go.IntWalk.i64_in _ (by omega)]; unfold recN; omega
  · rw [ari_add, Go.IntWalk.i64_in _ (by omega)]; omega
  · rw [ari_add, Go.IntWalk.i64_in _ (by omega)]; unfold recE; omega
  · unfold recE at *; rw [ari_add, Go.IntWalk.i64_in _ (by omega)]; omega
  · rw [ari_sub, Go.IntWalk.i64_in _ (by omega)]; omega
def reAb (b : ByteArray) (x : Nat × ByteArray) : SV → SMem → Prop := reA true (decide (x.2.size ≠ 0)) (byteAt (cB b) 0) (numB (cB b)) x.2.size x.1 (decide (x.1 < b.size)) (rowP (cB b) (numB (cB b))) (celA x.2)
theorem jrN_good {b : ByteArray} {A : SV → SMem → Prop} {Q0 : Int → Int → Prop} {Q1 : Int → Int → Nat → Array Value → Prop}
    (hg0 : ∀ a z, Q0 a z → Good ER.P A 0 (headF (jrF b)) (jrM0 b a z)) (hg1 : ∀ a z k vs, Q1 a z k vs → Good ER.P A 0 (headF (jrF b)) (jrM1 b a z k vs)) {fs : List SFr} {m : SMem} (hb : jrN b Q0 Q1 fs m) : Good ER.P A 0 fs m := by
  unfold jrN at hb
  generalize jrF b = F at *
  generalize jrM0 b = M0' at *
  generalize jrM1 b = M1' at *
  split at hb
  · exact Good.of_sub hb.2 (hg0 _ _ hb.1)
  · split at hb
    · exact Good.of_sub hb.2 (hg1 _ _ _ _ hb.1)
    · exact hb.elim
  · exact hb.elim
theorem jrN0_good {b : ByteArray} {A : SV → SMem → Prop} {Q0 : Int → Int → Prop} (hg0 : ∀ a z, Q0 a z → Good ER.P A 0 (headF (jrF b)) (jrM0 b a z)) {fs : List SFr} {m : SMem} (hb : jrN0 b Q0 fs m) : Good ER.P A 0 fs m := by
  unfold jrN0 at hb
  generalize jrF b = F at *
  generalize jrM0 b = M0' at *
  split at hb
  · exact Good.of_sub hb.2 (Good.head (hg0 _ _ hb.1))
  · exact hb.elim
theorem jrH0_9 (i : Nat) : TodoOk (ren 0 [(0, 0), (1, 1), (2, 2), (3, 3), (4, 4), (5, 5), (6, 6), (7, 7), (8, 8), (9, i)]) jrH0 jrH0 := TodoOk.same (by kernel_rfl)
theorem jrT1_9 (i : Nat) : TodoOk (ren 0 [(0, 0), (1, 1), (2, 2), (3, 3), (4, 4), (5, 5), (6, 6), (7, 7), (8, 8), (9, i)]) jrT1 jrT1 := TodoOk.same (by kernel_rfl)
theorem jrT0_8 : TodoOk (ren 0 [(0, 0), (1, 1), (2, 2), (3, 3), (4, 4), (5, 5), (6, 6), (7, 7), (8, 8)]) jrT0 jrT0 := TodoOk.same (by kernel_rfl)
theorem jrT1_8 : TodoOk (ren 0 [(0, 0), (1, 1), (2, 2), (3, 3), (4, 4), (5, 5), (6, 6), (7, 7), (8, 8)]) jrT1 jrT1 := TodoOk.same (by kernel_rfl)
theorem mk_no {x y : List UInt8} (h : ((match mkSB (false && false) (!x == y) with | SB.l b => b | SB.o b => b) == false) = false) : (x == y) = false := by
  cases e : (x == y) with
  | false => rfl
  | true => rw [e] at h; exact absurd h (by decide)
theorem mk_yes {x y : List UInt8} (h : ((match mkSB (false && false) (!x == y) with | SB.l b => b | SB.o b => b) == false) = true) : (x == y) = true := by
  cases e : (x == y) with
  | true => rfl
  | false => rw [e] at h; exact absurd h (by decide)
theorem no_end {b : ByteArray} {a : Nat} (k : Nat) (h : decide ((a : Int) < ((b.size : Nat) : Int)) = false) : recOk b a k = false := by
  have h := of_decide_eq_false h
  unfold recOk
  rw [decide_eq_false (p := a < b.size) (by omega)]; rfl
theorem no_small {b : ByteArray} {a : Nat} (k : Nat) (h : (decide ((recN b a : Int) < 1) == false) = false) : recOk b a k = false := by
  have : decide ((recN b a : Int) < 1) = true := (by simpa using h)
  have h := of_decide_eq_true this
  unfold recOk recW
  rw [decide_eq_false (p := 1 ≤ recN b a ∧ recN b a ≤ 200 ∧ recE b a + 4 ≤ b.size) (by omega), Bool.and_false]; rfl
theorem no_big {b : ByteArray} {a : Nat} (k : Nat) (h : (decide ((recN b a : Int) > 200) == false) = false) : recOk b a k = false := by
  have : decide ((recN b a : Int) > 200) = true := (by simpa using h)
  have h := of_decide_eq_true this
  unfold recOk recW
  rw [decide_eq_false (p := 1 ≤ recN b a ∧ recN b a ≤ 200 ∧ recE b a + 4 ≤ b.size) (by omega), Bool.and_false]; rfl
theorem no_room {b : ByteArray} {a : Nat} (k : Nat) (h : decide (((recE b a + 4 : Nat) : Int) > ((b.size : Nat) : Int)) = true) : recOk b a k = false := by
  have h := of_decide_eq_true h
  unfold recOk recW
  rw [decide_eq_false (p := 1 ≤ recN b a ∧ recN b a ≤ 200 ∧ recE b a + 4 ≤ b.size) (by omega), Bool.and_false]; rfl
theorem no_sum {b : ByteArray} {a : Nat} (k : Nat) (h : recS b a = false) : recOk b a k = false := by
  unfold recOk
  rw [h, Bool.and_false]; rfl
theorem no_pick {b : ByteArray} {a : Nat} (k : Nat) (hs : (recP b a).size ≤ 4000) (h : ((!(decide ((recP b a).size ≤ 4000) && !anyB (celA (recP b a)) 0 (recP b a).size)) == false) = false) : recOk b a k = false := by
  rw [decide_eq_true hs, Bool.true_and] at h
  unfold recOk
  cases e : anyB (celA (recP b a)) 0 (recP b a).size with
  | true => rw [Bool.not_true, Bool.and_false]; rfl
  | false => rw [e] at h; exact absurd h (by decide)
theorem no_many {b : ByteArray} {a : Nat} {k : Nat} (h : ¬ k + recN b a ≤ 4000) : recOk b a k = false := by
  unfold recOk
  rw [decide_eq_false h, Bool.and_false]
theorem yes_all {b : ByteArray} {a : Nat} {k : Nat} (h1 : a < b.size) (h2 : 1 ≤ recN b a ∧ recN b a ≤ 200 ∧ recE b a + 4 ≤ b.size) (h3 : recS b a = true) (hs : (recP b a).size ≤ 4000) (h4 : ((!(decide ((recP b a).size ≤ 4000) && !anyB (celA (recP b a)) 0 (recP b a).size)) == false) = true) (h5 : k + recN b a ≤ 4000) : recOk b a k = true := by
  rw [decide_eq_true hs, Bool.true_and] at h4
  unfold recOk recW
  rw [decide_eq_true h1, decide_eq_true h2, h3, decide_eq_true h5]
  cases e : anyB (celA (recP b a)) 0 (recP b a).size with
  | false => rfl
  | true => rw [e] at h4; exact absurd h4 (by decide)
section
variable (b : ByteArray) (hb : b.size ≤ 100000)
include hb
theorem k_round : ∀ (K a : Nat) (q : ByteArray), b.size - a < K → 4 ≤ a → a ≤ b.size → 1 ≤ q.size → q.size ≤ 4000 → Good ER.P (reAb b (scanA b K a q)) 0 (headF (jrF b)) (jrM1 b a a q.size (celA q)) := by
  intro K
  induction K with
  | zero => intro a q h; omega
  | succ K ih =>
    intro a q hk h4 ha hq1 hq4
    refine past_vc ER_ok 1000 (k_step b (a : Int) (a : Int) q.size (celA q) _ _ _ _ _ _ _ _ _ (fun _ _ => False) (fun a' z' k' vs' => recOk b a q.size = true ∧ a' = ((recE b a + 4 : Nat) : Int) ∧ z' = a' ∧ k' = (q ++ recP b a).size ∧ vs' = celA (q ++ recP b a))) ?_ (fun _ _ h => h)
      (fun fs m hb' => jrN_good (fun _ _ h => h.elim) (fun a' z' k' vs' h => ?_) hb')
    rotate_left
    · obtain ⟨h0, rfl, rfl, rfl, rfl⟩ := h
      rw [scan_yes h0]
      have h1 := h0
      unfold recOk recW at h1
      simp only [Bool.and_eq_true, decide_eq_true_eq] at h1
      obtain ⟨⟨⟨⟨h1, h2, h3, h5⟩, _⟩, _⟩, h6⟩ := h1
      have hs := recP_size (b := b) (a := a) (by omega)
      refine ih (recE b a + 4) (q ++ recP b a) ?_ ?_ ?_ ?_ ?_
      · unfold recE; omega
      · omega
      · omega
      · rw [ByteArray.size_append]; omega
      · rw [ByteArray.size_append]; omega
    have hex : recOk b a q.size = false → scanA b (K + 1) a q = (a, q) := fun h => scan_no h _
    have hA : ∀ r : Nat × ByteArray, r = (a, q) → true = true ∧ decide (r.2.size ≠ 0) = true ∧ byteAt (cB b) 0 = byteAt (cB b) 0 ∧ numB (cB b) = numB (cB b) ∧ r.2.size = q.size ∧ (r.1 : Int) = (a : Int) ∧ decide (r.1 < b.size) = decide ((a : Int) < ((b.size : Nat) : Int)) ∧ (9 : TypeId) = (9 : TypeId) ∧ rowP (cB b) (numB (cB b)) = rowP (cB b) (numB (cB b)) ∧ (5 : TypeId) = (5 : TypeId) ∧ celA r.2 = celA q ∧ True := fun r e => by
      subst e
      refine ⟨rfl, decide_eq_true (by show q.size ≠ 0; omega), rfl, rfl, rfl, rfl, ?_, rfl, rfl, rfl, rfl, trivial⟩
      exact decide_eq_decide.2 (by omega)
    generalize scanA b (K + 1) a q = r at *
    obtain ⟨e1, e2, e3, e4, e5⟩ := rec_eqs b a (by omega) h4
    rw [Int.toNat_natCast, e2, e1, e3, e4, e5, Int.toNat_natCast, Int.toNat_natCast, Int.toNat_natCast, Int.toNat_natCast]
    have hrn := recN_le b a
    have hre : recE b a = a + 1 + recN b a := rfl
    refine ⟨fun h1 => ⟨⟨⟨by omega, by have := of_decide_eq_true h1; omega⟩, trivial⟩, fun h2 => ⟨fun h3 => ⟨fun h5 => hA r (hex (no_room _ h5)), fun h5 => ?_⟩, fun h3 => hA r (hex (no_big _ h3))⟩, fun h2 => hA r (hex (no_small _ h2))⟩, fun h1 => hA r (hex (no_end _ h1))⟩
    have h1 := of_decide_eq_true h1
    have h2 : ¬ recN b a < 1 := by have : decide ((recN b a : Int) < 1) = false := (by simpa using h2); have := of_decide_eq_false this; omega
    have h3 : ¬ recN b a > 200 := by have : decide ((recN b a : Int) > 200) = false := (by simpa using h3); have := of_decide_eq_false this; omega
    have h5 := of_decide_eq_false h5
    have hs : (recP b a).size = recN b a := recP_size (by omega)
    rw [show b.extract (a + 1) (recE b a) = recP b a from rfl, show Array.map (fun b => Value.int IntKind.u8 (↑(UInt8.toNat b) : Int)) (ByteArray.data (recP b a)) = celA (recP b a) from rfl]
    refine ⟨⟨by omega, by omega, by omega, by omega, trivial⟩, ⟨by omega, by omega, by omega, by omega, trivial⟩, ⟨by rw [ext_size, ext_size]; omega, trivial⟩, ⟨by omega, by omega, by omega, by omega, trivial⟩, ⟨by omega, by omega, by omega, by omega, trivial⟩, fun h6 => ⟨⟨celA_ok _ (by omega), trivial⟩, fun h7 => ⟨fun h8 => ?_, fun h8 => ?_⟩, fun h7 => hA r (hex (no_pick _ (by omega) h7))⟩, fun h6 => hA r (hex (no_sum _ (mk_no h6)))⟩
    · rw [hs, ari_add, Go.IntWalk.i64_in _ (by omega)] at h8
      have h8 := of_decide_eq_true h8
      exact hA r (hex (no_many (by omega)))
    · rw [hs, ari_add, Go.IntWalk.i64_in _ (by omega)] at h8
      have h8 := of_decide_eq_false h8
      have hz : ari .add .i64 (a : Int) (ari .add .i64 (ari .add .i64 1 (((recP b a).size : Nat) : Int)) 4) = ((recE b a + 4 : Nat) : Int) := by
        rw [hs, ari_add, ari_add, ari_add, Go.IntWalk.i64_in (1 + _) (by omega), Go.IntWalk.i64_in (_ + 4) (by omega), Go.IntWalk.i64_in _ (by omega)]
        omega
      rw [hz, ← celA_app, ← ByteArray.size_append]
      have hok := yes_all (show a < b.size by omega) ⟨by omega, by omega, by omega⟩ (mk_yes h6) (by omega) h7 (show q.size + recN b a ≤ 4000 by omega)
      have hzz : (q ++ recP b a).size = q.size + recN b a := by rw [ByteArray.size_append, hs]
      generalize hX : celA (q ++ recP b a) = X
      refine ⟨⟨⟨by omega, by omega⟩, by rw [celA_size]; omega, trivial⟩, ⟨hok, rfl, rfl, rfl, rfl⟩, ?_⟩
      clear hA hex ih
      have hH := jrH0_9
      have hT := jrT1_9
      have hL : EqL jrLp jrLp := Eq.refl jrLp
      generalize jrH0 = H at *
      generalize jrT1 = T at *
      generalize jrLp = L at *
      repeat' first | exact trivial | exact rfl | exact hH _ | exact hT _ | exact hL | apply And.intro
end
end Go.Proofs.Ytapkbgccbmjfaaa
/- Of journal: what Read answers, and its contract. No condition. -/
namespace Go.Proofs.Ytapkbgccbmjfaaa
set_option linter.unusedSectionVars false
set_option linter.unusedVariables false
set_option maxRecDepth 100000
set_option maxHeartbeats 2000000
def finB (b : ByteArray) : Nat × ByteArray := scanA b (b.size + 1) (endN b + 4) .empty
def okJ (b : ByteArray) : Bool := preH b && (okD (cB b) && !decide ((leftB (cB b)).size ≠ 0))
section
variable (b : ByteArray) (hb : b.size ≤ 100000)
include hb
theorem k_firstG (K a : Nat) (hk : b.size - a < K + 1) (h4 : 4 ≤ a) (ha : a ≤ b.size) : Good ER.P (reAb b (scanA b (K + 1) a .empty)) 0 (headF (jrF b)) (jrM0 b a a) := by
  have hz0 : ByteArray.empty.size = 0 := rfl
  refine past_vc ER_ok 1000 (k_first b (a : Int) (a : Int) _ _ _ _ _ _ _ _ _ (fun _ _ => False) (fun a' z' k' vs' => recOk b a 0 = true ∧ a' = ((recE b a + 4 : Nat) : Int) ∧ z' = a' ∧ k' = (recP b a).size ∧ vs' = celA (recP b a))) ?_ (fun _ _ h => h)
    (fun fs m hb' => jrN_good (fun _ _ h => h.elim) (fun a' z' k' vs' h => ?_) hb')
  rotate_left
  · obtain ⟨h0, rfl, rfl, rfl, rfl⟩ := h
    rw [scan_yes (q := .empty) (by rw [hz0]; exact h0)]
    have h1 := h0
    unfold recOk recW at h1
    simp only [Bool.and_eq_true, decide_eq_true_eq] at h1
    obtain ⟨⟨⟨⟨h1, h2, h3, h5⟩, _⟩, _⟩, h6⟩ := h1
    have hs := recP_size (b := b) (a := a) (by omega)
    rw [show ByteArray.empty ++ recP b a = recP b a from app_none _]
    refine k_round b hb K (recE b a + 4) (recP b a) ?_ ?_ ?_ ?_ ?_
    · unfold recE; omega
    · omega
    · omega
    · omega
    · omega
  have hex : recOk b a 0 = false → scanA b (K + 1) a .empty = (a, .empty) := fun h => scan_no (q := .empty) (by rw [hz0]; exact h) _
  have hA : ∀ r : Nat × ByteArray, r = (a, .empty) → true = true ∧ decide (r.2.size ≠ 0) = false ∧ byteAt (cB b) 0 = byteAt (cB b) 0 ∧ numB (cB b) = numB (cB b) ∧ Value.slice none (0 : Nat) (0 : Nat) = Value.slice none (0 : Nat) (0 : Nat) ∧ (r.1 : Int) = (a : Int) ∧ decide (r.1 < b.size) = decide ((a : Int) < ((b.size : Nat) : Int)) ∧ (9 : TypeId) = (9 : TypeId) ∧ rowP (cB b) (numB (cB b)) = rowP (cB b) (numB (cB b)) ∧ True := fun r e => by
    subst e
    refine ⟨rfl, rfl, rfl, rfl, rfl, rfl, ?_, rfl, rfl, trivial⟩
    exact decide_eq_decide.2 (by omega)
  generalize scanA b (K + 1) a .empty = r at *
  obtain ⟨e1, e2, e3, e4, e5⟩ := rec_eqs b a (by omega) h4
  rw [Int.toNat_natCast, e2, e1, e3, e4, e5, Int.toNat_natCast, Int.toNat_natCast, Int.toNat_natCast, Int.toNat_natCast]
  have hrn := recN_le b a
  have hre : recE b a = a + 1 + recN b a := rfl
  refine ⟨fun h1 => ⟨⟨⟨by omega, by have := of_decide_eq_true h1; omega⟩, trivial⟩, fun h2 => ⟨fun h3 => ⟨fun h5 => hA r (hex (no_room _ h5)), fun h5 => ?_⟩, fun h3 => hA r (hex (no_big _ h3))⟩, fun h2 => hA r (hex (no_small _ h2))⟩, fun h1 => hA r (hex (no_end _ h1))⟩
  have h1 := of_decide_eq_true h1
  have h2 : ¬ recN b a < 1 := by have : decide ((recN b a : Int) < 1) = false := (by simpa using h2); have := of_decide_eq_false this; omega
  have h3 : ¬ recN b a > 200 := by have : decide ((recN b a : Int) > 200) = false := (by simpa using h3); have := of_decide_eq_false this; omega
  have h5 := of_decide_eq_false h5
  have hs : (recP b a).size = recN b a := recP_size (by omega)
  rw [show b.extract (a + 1) (recE b a) = recP b a from rfl, show Array.map (fun b => Value.int IntKind.u8 (↑(UInt8.toNat b) : Int)) (ByteArray.data (recP b a)) = celA (recP b a) from rfl]
  refine ⟨⟨by omega, by omega, by omega, by omega, trivial⟩, ⟨by omega, by omega, by omega, by omega, trivial⟩, ⟨by rw [ext_size, ext_size]; omega, trivial⟩, ⟨by omega, by omega, by omega, by omega, trivial⟩, ⟨by omega, by omega, by omega, by omega, trivial⟩, fun h6 => ⟨⟨celA_ok _ (by omega), trivial⟩, fun h7 => ⟨fun h8 => ?_, fun h8 => ⟨fun h9 => ?_, fun h9 => ?_⟩⟩, fun h7 => hA r (hex (no_pick _ (by omega) h7))⟩, fun h6 => hA r (hex (no_sum _ (mk_no h6)))⟩
  · rw [hs, ari_add, Go.IntWalk.i64_in _ (by omega)] at h8
    have h8 := of_decide_eq_true h8
    omega
  · have h9 := of_decide_eq_true h9
    omega
  · have hz : ari .add .i64 (a : Int) (ari .add .i64 (ari .add .i64 1 (((recP b a).size : Nat) : Int)) 4) = ((recE b a + 4 : Nat) : Int) := by
      rw [hs, ari_add, ari_add, ari_add, Go.IntWalk.i64_in (1 + _) (by omega), Go.IntWalk.i64_in (_ + 4) (by omega), Go.IntWalk.i64_in _ (by omega)]
      omega
    rw [hz]
    have hok := yes_all (k := 0) (show a < b.size by omega) ⟨by omega, by omega, by omega⟩ (mk_yes h6) (by omega) h7 (by omega)
    generalize hX : celA (recP b a) = X
    refine ⟨⟨by omega, ⟨by omega, by omega⟩, trivial⟩, ⟨hok, rfl, rfl, rfl, rfl⟩, ?_⟩
    clear hA hex
    have hH := jrH0_9
    have hT := jrT1_9
    have hL : EqL jrLp jrLp := Eq.refl jrLp
    generalize jrH0 = H at *
    generalize jrT1 = T at *
    generalize jrLp = L at *
    repeat' first | exact trivial | exact rfl | exact hH _ | exact hT _ | exact hL | apply And.intro
def reAj (b : ByteArray) : SV → SMem → Prop := reA (okJ b) (decide ((finB b).2.size ≠ 0)) (byteAt (cB b) 0) (numB (cB b)) (finB b).2.size (finB b).1 (decide ((finB b).1 < b.size)) (rowP (cB b) (numB (cB b))) (celA (finB b).2)
theorem re_good : Good Try.prog (reAj b) 0 (reC b) M0 := by
  refine run_vc ER_ok 1000 (k_start b (okJ b) (decide ((finB b).2.size ≠ 0)) (byteAt (cB b) 0) (numB (cB b)) (finB b).2.size (finB b).1 (decide ((finB b).1 < b.size)) (rowP (cB b) (numB (cB b))) (celA (finB b).2) (fun a z => okJ b = true ∧ preH b = true ∧ a = ((endN b + 4 : Nat) : Int) ∧ z = a)) ?_ (fun _ _ h => h)
    (fun fs m hb' => jrN0_good (fun a' z' h => ?_) hb')
  · refine ⟨⟨hb, trivial⟩, fun h1 => ⟨fun h2 => ⟨fun h3 => ?_, fun h3 => ⟨⟨?_, h1, rfl, rfl⟩, ?_⟩⟩, fun h2 => ?_⟩, fun h1 => ?_⟩
    · refine ⟨?_, rfl, rfl, rfl, rfl, trivial⟩
      unfold okJ; rw [h3, Bool.not_true, Bool.and_false, Bool.and_false]
    · unfold okJ; rw [h1, h2, h3]; rfl
    · have hH := jrT0_8
      have hT := jrT1_8
      have hL : EqL jrLp jrLp := Eq.refl jrLp
      generalize jrT0 = H at *
      generalize jrT1 = T at *
      generalize jrLp = L at *
      repeat' first | exact trivial | exact rfl | exact hH | exact hT | exact hL | apply And.intro
    · refine ⟨?_, rfl, rfl, rfl, rfl, trivial⟩
      unfold okJ; rw [h2, Bool.false_and, Bool.and_false]
    · refine ⟨?_, rfl, rfl, rfl, rfl, trivial⟩
      unfold okJ; rw [h1, Bool.false_and]
  · obtain ⟨h1, h2, rfl, rfl⟩ := h
    have h := k_firstG b hb b.size (endN b + 4) (by omega) (by omega) (by
      unfold preH at h2
      simp only [Bool.and_eq_true, decide_eq_true_eq] at h2
      exact h2.2.1)
    unfold reAj
    rw [h1]
    exact h
end
theorem reA_yes0 {P : Int} {n k : Nat} {z : Int} {tn : Bool} {rs vs : Array Value} {s : SV} {m' : SMem} (h : reA true false P n k z tn rs vs s m') : ∃ π, retOk 0 π (reV P n nilC z tn) (resM false rs vs) s m' := by
  unfold reA at h
  split at h
  · split at h
    · exact absurd h.1 (by decide)
    · split at h
      · exact ⟨_, h.2.2⟩
      · exact absurd h.2.1 (by decide)
      · exact h.elim
    · exact h.elim
  · exact h.elim
theorem reA_yes1 {P : Int} {n k : Nat} {z : Int} {tn : Bool} {rs vs : Array Value} {s : SV} {m' : SMem} (h : reA true true P n k z tn rs vs s m') : ∃ π, retOk 0 π (reV P n (.f (.slice 1 (.l 0) (.o k) .any)) z tn) (resM true rs vs) s m' := by
  unfold reA at h
  split at h
  · split at h
    · exact absurd h.1 (by decide)
    · split at h
      · exact absurd h.2.1 (by decide)
      · exact ⟨_, h.2.2⟩
      · exact h.elim
    · exact h.elim
  · exact h.elim
theorem reA_no {w : Bool} {P : Int} {n k : Nat} {z : Int} {tn : Bool} {rs vs : Array Value} {s : SV} {m' : SMem} {R R' : Ren} {v : Value} (h : reA false w P n k z tn rs vs s m') (hv : s.ok R' v) : reno.ok R v := by
  unfold reA at h
  split at h
  · rename_i p A B y t e
    split at h
    · obtain ⟨_, h1, h2, h3, h4, h5⟩ := h
      split at h5
      · obtain ⟨us, rfl, hl⟩ := hv
        match hvs : us.toList, hl with
        | [a, c], hl =>
          refine ⟨us, rfl, ?_⟩
          rw [hvs]
          obtain ⟨⟨cs, ea, hc⟩, hd, _⟩ := hl
          have hd : c = .int .i64 e.den := hd
          rw [h2] at hd
          refine ⟨⟨cs, ea, ?_⟩, hd, trivial⟩
          have hc : All2 (SC.ok R') [.f (.int .i64 p), .f (.lit (.slice none 0 0)), .f (.lit (.slice none 0 0)), .f (.int .i64 y), .f (.bool t)] cs.toList := hc
          show All2 (SC.ok R) [.f (.int .i64 (.l 0)), nilC, nilC, .f (.int .i64 (.l 0)), .f (.bool (.l false))] cs.toList
          match hcs : cs.toList, hc with
          | [x, y', z', u, w'], hc =>
            have hx : x = .int .i64 p.den := hc.1
            rw [h1] at hx
            have hu : u = .int .i64 y.den := hc.2.2.2.1
            rw [h3] at hu
            have hw : w' = .bool t.den := hc.2.2.2.2.1
            rw [h4] at hw
            exact ⟨hx, hc.2.1, hc.2.2.1, hu, hw, trivial⟩
      · exact h5.elim
    · split at h
      · exact absurd h.1 (by decide)
      · exact absurd h.1 (by decide)
      · exact h.elim
    · exact h.elim
  · exact h.elim
theorem fn16r : E0.fn 16 = some Try.f16 := by kernel_rfl
theorem body16r : Try.f16.body = some (Try.f16.body.getD .skip) := by kernel_rfl
noncomputable def reT (m : SMem) : SV → Option Tree
  | .s (.c (.f (.opq (.string b)))) => some (needs [b.size ≤ 100000] (.br (okJ b)
      (.br (decide ((finB b).2.size ≠ 0)) (.ret ((reV (byteAt (cB b) 0) (numB (cB b)) (.f (.slice 1 (.l 0) (.o (finB b).2.size) .any)) (finB b).1 (decide ((finB b).1 < b.size))).re (sh m.next)) (ins2 m (resM true (rowP (cB b) (numB (cB b))) (celA (finB b).2))))
        (.ret ((reV (byteAt (cB b) 0) (numB (cB b)) nilC (finB b).1 (decide ((finB b).1 < b.size))).re (sh m.next)) (ins2 m (resM false (rowP (cB b) (numB (cB b))) (celA (finB b).2)))))
      (.ret reno m)))
  | _ => none
theorem reT_ok {m : SMem} {x : SV} {t : Tree} (h : reT m x = some t) : Con E0 16 [x] m t := by
  unfold reT at h
  split at h
  · rename_i b
    cases h
    refine Con.br (fun hp => Con.br (fun hw => ?_) fun hw => ?_) fun hp => ?_
    · refine Con.freshG fn16r body16r (noIds_str b) fun hq => Good.retX ((re_good b (hq _ (by simp))).mono fun s m' h => ?_)
      unfold reAj at h
      rw [hp, hw] at h
      exact reA_yes1 h
    · refine Con.freshG fn16r body16r (noIds_str b) fun hq => Good.retX ((re_good b (hq _ (by simp))).mono fun s m' h => ?_)
      unfold reAj at h
      rw [hp, hw] at h
      exact reA_yes0 h
    · refine Con.ro E0_ok (l := [strV' b]) (l' := [strV' b]) (ms := M0) (m := m) (q := _) (A := reAj b) fn16r body16r rfl (fun i => i) no_blocks (fun R vs ha => strV_ok ha) (fun hq => re_good b (hq _ (by simp))) (fun s m' R R' v h hv => ?_)
      unfold reAj at h
      rw [hp] at h
      exact reA_no h hv
  · cases h
end Go.Proofs.Ytapkbgccbmjfaaa
/- Of journal: the reference's Bytes of a row of one's own, its picks, its record: states. No condition. -/
namespace Go.Proofs.Ytapkbgccbmjfaaa
noncomputable section
section
variable (P : Int) (o n : Nat) (q : ByteArray) (cs : Array Value) (ty : TypeId)
end
def rcoB (j p : ByteArray) : ByteArray := strOf [.int .u8 (IntKind.wrap .u8 ((p.size : Nat) : Int))] ++ p
def rcoR (j p : ByteArray) : ByteArray := smA (j.extract (j.size - 4) j.size) (rcoB j p)
end
end Go.Proofs.Ytapkbgccbmjfaaa
/- Of journal: the reference's Bytes, picks and record, as propositions. No condition. -/
namespace Go.Proofs.Ytapkbgccbmjfaaa
set_option maxRecDepth 100000
end Go.Proofs.Ytapkbgccbmjfaaa
/- Of journal: the reference's Bytes of a row of one's own, its picks and its record answer as it is told. No condition. -/
namespace Go.Proofs.Ytapkbgccbmjfaaa
set_option linter.unusedSectionVars false
set_option linter.unusedVariables false
set_option maxRecDepth 100000
section
variable (P : Int) (o n : Nat) (q : ByteArray) (cs : Array Value) (ty : TypeId)
end
end Go.Proofs.Ytapkbgccbmjfaaa
/- Of journal: the reference's Begin of a row of one's own, as a contract: states. No condition. -/
namespace Go.Proofs.Ytapkbgccbmjfaaa
noncomputable section
def hdB (e : ByteArray) : ByteArray := smA .empty (magB ++ twoB e.size ++ e)
end
end Go.Proofs.Ytapkbgccbmjfaaa
/- Of journal: the reference's Begin of a row of one's own, as propositions. No condition. -/
namespace Go.Proofs.Ytapkbgccbmjfaaa
set_option maxRecDepth 100000
end Go.Proofs.Ytapkbgccbmjfaaa
/- Of journal: the reference's Bytes, Begin, picks and Record as contracts. No condition. -/
namespace Go.Proofs.Ytapkbgccbmjfaaa
set_option linter.unusedSectionVars false
set_option linter.unusedVariables false
set_option maxRecDepth 100000
section
variable (q : ByteArray) (hq : q.size < 140737488355328)
include hq
end
end Go.Proofs.Ytapkbgccbmjfaaa
/- Of journal: the reference's Read: contracts' trees and states. No condition. -/
namespace Go.Proofs.Ytapkbgccbmjfaaa
noncomputable section
end
end Go.Proofs.Ytapkbgccbmjfaaa
/- Of journal: the reference's Read: its start and its rounds, as propositions. No condition. -/
namespace Go.Proofs.Ytapkbgccbmjfaaa
set_option maxRecDepth 100000
end Go.Proofs.Ytapkbgccbmjfaaa
/- Of journal: bytes, heads and records: what the document asks and what the program looks at are the same. No condition. -/
namespace Go.Proofs.Ytapkbgccbmjfaaa
set_option linter.unusedSectionVars false
set_option linter.unusedVariables false
set_option maxRecDepth 100000
theorem toL_loop (b : ByteArray) : ∀ (K i : Nat) (r : List UInt8), b.size - i < K → ByteArray.toList.loop b i r = r.reverse ++ b.data.toList.drop i := by
  intro K
  induction K with
  | zero => intro i r h; omega
  | succ K ih =>
    intro i r h
    unfold ByteArray.toList.loop
    split
    · rename_i hi
      have hi' : i < b.data.toList.length := by rw [Array.length_toList]; exact hi
      rw [ih _ _ (by omega), List.drop_eq_getElem_cons hi', List.reverse_cons, List.append_assoc]
      have : b.get! i = b.data.toList[i] := by
        show b.data[i]! = _
        rw [Array.getElem_toList, getElem!_pos b.data i (by exact hi)]
      rw [this]; rfl
    · rename_i hi
      rw [List.drop_eq_nil_of_le (by rw [Array.length_toList]; exact Nat.le_of_not_lt hi), List.append_nil]
theorem toL (b : ByteArray) : b.toList = b.data.toList := toL_loop b (b.size + 1) 0 [] (by omega)
theorem toL_inj {a b : ByteArray} (h : (a.toList == b.toList) = true) : a = b := by
  rw [beq_iff_eq, toL, toL] at h
  exact ByteArray.ext (Array.ext' h)
theorem toL_same (a : ByteArray) : (a.toList == a.toList) = true := by rw [beq_self_eq_true]
theorem ext_ext2 (b : ByteArray) (s e i j : Nat) : (b.extract s e).extract i j = b.extract (s + i) (min (s + j) e) := by
  apply ByteArray.ext
  rw [ByteArray.data_extract, ByteArray.data_extract, ByteArray.data_extract, Array.extract_extract]
theorem ext_app {b : ByteArray} {i j k : Nat} (h1 : i ≤ j) (h2 : j ≤ k) : b.extract i j ++ b.extract j k = b.extract i k := by
  apply ByteArray.ext
  rw [ByteArray.data_append, ByteArray.data_extract, ByteArray.data_extract, ByteArray.data_extract, Array.extract_append_extract, Nat.min_eq_left h1, Nat.max_eq_right h2]
end Go.Proofs.Ytapkbgccbmjfaaa
/- Of journal: the reference's Decode, and Same of two rows of one's own, as contracts. No condition. -/
namespace Go.Proofs.Ytapkbgccbmjfaaa
set_option linter.unusedSectionVars false
set_option linter.unusedVariables false
set_option maxRecDepth 100000
end Go.Proofs.Ytapkbgccbmjfaaa
/- Of journal: the reference's Read answers as it is told: its contract. No condition. -/
namespace Go.Proofs.Ytapkbgccbmjfaaa
set_option linter.unusedSectionVars false
set_option linter.unusedVariables false
set_option maxRecDepth 100000
set_option maxHeartbeats 2000000
section
variable (b : ByteArray) (hb : b.size ≤ 100000) (P : Int) (n : Nat) (rs : Array Value)
include hb
end
end Go.Proofs.Ytapkbgccbmjfaaa
/- Of journal: the reference's Read at any bytes, and its contract. No condition. -/
namespace Go.Proofs.Ytapkbgccbmjfaaa
set_option linter.unusedSectionVars false
set_option linter.unusedVariables false
set_option maxRecDepth 100000
set_option maxHeartbeats 2000000
theorem pre_size {b : ByteArray} (h : preH b = true) : 10 ≤ b.size ∧ endN b + 4 ≤ b.size := by
  have hl := end_le b
  unfold preH at h
  simp only [Bool.and_eq_true, decide_eq_true_eq] at h
  omega
section
variable (b : ByteArray) (hb : b.size ≤ 100000)
include hb
end
end Go.Proofs.Ytapkbgccbmjfaaa
/- Of journal: JournalReads' run: contracts and the call. No condition. -/
namespace Go.Proofs.Ytapkbgccbmjfaaa
noncomputable section
end
end Go.Proofs.Ytapkbgccbmjfaaa
/- Of journal: JournalReads' run, as a proposition. No condition. -/
namespace Go.Proofs.Ytapkbgccbmjfaaa
set_option maxRecDepth 100000
end Go.Proofs.Ytapkbgccbmjfaaa
/- Of journal: JournalReads' run ends with true. No condition. -/
namespace Go.Proofs.Ytapkbgccbmjfaaa
set_option linter.unusedSectionVars false
set_option linter.unusedVariables false
set_option maxRecDepth 100000
end Go.Proofs.Ytapkbgccbmjfaaa
/- Of journal: whether picks that came in may be, and Add, as contracts: states. No condition. -/
namespace Go.Proofs.Ytapkbgccbmjfaaa
noncomputable section
def mqC (o n : Nat) : List SFr := [callFr 32 Try.f32.ntmps [.s (.c (slC 0 o n))] (Try.f32.body.getD .skip)]
def rowX (m : SMem) (i : Nat) : Option (Bool × Array Value) := match getB m.bl i with
  | some ⟨.raw cs, _, _⟩ => some (true, cs)
  | some ⟨.op cs, _, _⟩ => some (false, cs)
  | some ⟨.pop cs, _, _⟩ => some (false, cs)
  | _ => none
def mqT (m : SMem) : SV → Option Tree
  | .s (.c (.f (.slice i o n _))) => match rowX m i with
    | some (_, cs) => some (needs [BytOk cs o.den n.den] (.ret (sB (.o (decide (n.den ≤ 4000) && !anyB cs o.den n.den))) m))
    | none => none
  | _ => none
def conA (g : FuncId) (l : List SV) (m : SMem) : Option Tree := match g, l with
  | 16, [x] => reT m x
  | 25, [x, y] => smT m x y
  | 32, [x] => mqT m x
  | _, _ => none
def EA : Env := ⟨Try.prog, fnOf, conA, fun _ _ _ => false⟩
def addC (j : ByteArray) (x : SC) : List SFr := [callFr 18 Try.f18.ntmps [strV' j, .s (.c x)] (Try.f18.body.getD .skip)]
def adOk (j : ByteArray) (n : Nat) (any : Bool) : Bool := okJ j && (!decide ((finB j).1 < j.size) && (decide (1 ≤ n ∧ n ≤ 200) && !any))
def adR (j q : ByteArray) : ByteArray := j ++ rcoR j q
def adA (ok fit : Bool) (e : ByteArray) (s : SV) (_ : SMem) : Prop := match s with
  | .tup [.c (.f (.opq (.string s))), .c (.f (.int .i64 y))] => ok = true ∧ fit = true ∧ StrIs s e ∧ y.den = 0
  | .tup [.c (.f (.lit (.string s))), .c (.f (.int .i64 y))] => StrIs s .empty ∧ ((ok = false ∧ y.den = 3) ∨ (ok = true ∧ fit = false ∧ y.den = 8))
  | _ => False
def pkQ (cs : Array Value) (o n : Nat) : ByteArray := strOf (cs.extract o (o + n)).toList
def BytR (cs : Array Value) (o n : Nat) : Prop := BytOk cs o n ∧ o + n ≤ cs.size ∧ ∀ j, j < n → 0 ≤ intAt cs (o + j) ∧ intAt cs (o + j) ≤ 255
def adF (j : ByteArray) (n : Nat) : Bool := decide ((finB j).2.size + n ≤ 4000)
def adT (m : SMem) (x y : SV) : Option Tree := match strX x, y with
  | some j, .s (.c (.f (.slice i o n _))) => match rowX m i with
    | some (_, cs) => some (needs [j.size ≤ 90000, BytR cs o.den n.den] (.br (adOk j n.den (anyB cs o.den n.den)) (.br (adF j n.den)
        (.ret (.tup [.c (.f (.opq (.string (adR j (pkQ cs o.den n.den))))), .c (.f (.int .i64 (.l 0)))]) m)
        (.ret (.tup [.c (.f (.lit (.string ⟨⟨[]⟩⟩))), .c (.f (.int .i64 (.l 8)))]) m))
        (.ret (.tup [.c (.f (.lit (.string ⟨⟨[]⟩⟩))), .c (.f (.int .i64 (.l 3)))]) m)))
    | none => none
  | some j, .s (.c (.f .e0)) => some (needs [j.size ≤ 90000] (.ret (.tup [.c (.f (.lit (.string ⟨⟨[]⟩⟩))), .c (.f (.int .i64 (.l 3)))]) m))
  | _, _ => none
end
end Go.Proofs.Ytapkbgccbmjfaaa
/- Of journal: whether picks that came in may be, and Add: as propositions. No condition. -/
namespace Go.Proofs.Ytapkbgccbmjfaaa
set_option maxRecDepth 100000
theorem mq_run_t (o n : Nat) (cs : Array Value) (ty : TypeId) (r : Bool) : (run EP 1000 1 (mqC o n) (prM true cs ty)).vc (boolR r) (fun _ _ => False) =
    ((decide ((↑n : Int) > (4000 : Int)) = true → false = r) ∧ (decide ((↑n : Int) > (4000 : Int)) = false → (rowOk false cs o n ∧ True) ∧ (!anyV false cs o n) = r)) := by kernel_rfl
theorem mq_run_f (o n : Nat) (cs : Array Value) (ty : TypeId) (r : Bool) : (run EP 1000 1 (mqC o n) (prM false cs ty)).vc (boolR r) (fun _ _ => False) =
    ((decide ((↑n : Int) > (4000 : Int)) = true → false = r) ∧ (decide ((↑n : Int) > (4000 : Int)) = false → (rowOk false cs o n ∧ True) ∧ (!anyV false cs o n) = r)) := by kernel_rfl
theorem ad_run_t (j : ByteArray) (o n : Nat) (cs : Array Value) (ty : TypeId) (ok fit : Bool) (e : ByteArray) : (run EA 1000 1 (addC j (slC 0 o n)) (prM true cs ty)).vc (adA ok fit e) (fun _ _ => False) =
    ((ByteArray.size j ≤ (100000 : Nat) ∧ True) ∧ (okJ j = true → (decide (ByteArray.size (Prod.snd (finB j)) ≠ (0 : Nat)) = true → ((decide (Prod.fst (finB j) < ByteArray.size j) == false) = true → ((((↑n : Int) == (0 : Int)) == false) = true → ((decide ((↑n : Int) > (200 : Int)) == false) = true → (BytOk cs o n ∧ True) ∧ ((!(decide (n ≤ (4000 : Nat)) && !anyB cs o n)) = true → StrIs (ByteArray.mk #[]) ByteArray.empty ∧ (ok = false ∧ (3 : Int) = (3 : Int) ∨ ok = true ∧ fit = false ∧ (3 : Int) = (8 : Int))) ∧ ((!(decide (n ≤ (4000 : Nat)) && !anyB cs o n)) = false → (decide (ari BinOp.add IntKind.i64 (↑(ByteArray.size (Prod.snd (finB j))) : Int) (↑n : Int) > (4000 : Int)) = true → StrIs (ByteArray.mk #[]) ByteArray.empty ∧ (ok = false ∧ (8 : Int) = (3 : Int) ∨ ok = true ∧ fit = false ∧ (8 : Int) = (8 : Int))) ∧ (decide (ari BinOp.add IntKind.i64 (↑(ByteArray.size (Prod.snd (finB j))) : Int) (↑n : Int) > (4000 : Int)) = false → ((0 : Int) ≤ ari BinOp.sub IntKind.i64 ((((ByteArray.size j) : Nat) : Int)) (4 : Int) ∧ (Int.toNat (ari BinOp.sub IntKind.i64 ((((ByteArray.size j) : Nat) : Int)) (4 : Int)) ≤ (ByteArray.size j)) ∧ True) ∧ (o + n ≤ Array.size cs ∧ (∀ (v : Value), List.Mem v (Array.toList (Array.extract cs o (o + n))) → Value.oneCell' v = true) ∧ AllU8 (Array.extract cs o (o + n)).1 ∧ True) ∧ ((↑(ByteArray.size (strOf [Value.int IntKind.u8 (IntKind.wrap IntKind.u8 (↑n : Int))]) + ByteArray.size (strOf (Array.toList (Array.extract cs o (o + n))))) : Int) ≤ (9223372036854775807 : Int) ∧ True) ∧ (ByteArray.size (ByteArray.extract j (Int.toNat (ari BinOp.sub IntKind.i64 ((((ByteArray.size j) : Nat) : Int)) (4 : Int))) ((ByteArray.size j))) + ByteArray.size (strOf [Value.int IntKind.u8 (IntKind.wrap IntKind.u8 (↑n : Int))] ++ strOf (Array.toList (Array.extract cs o (o + n)))) ≤ (1000000 : Nat) ∧ True) ∧ ((↑(ByteArray.size j + ByteArray.size (smA (ByteArray.extract j (Int.toNat (ari BinOp.sub IntKind.i64 ((((ByteArray.size j) : Nat) : Int)) (4 : Int))) ((ByteArray.size j))) (strOf [Value.int IntKind.u8 (IntKind.wrap IntKind.u8 (↑n : Int))] ++ strOf (Array.toList (Array.extract cs o (o + n)))))) : Int) ≤ (9223372036854775807 : Int) ∧ True) ∧ ok = true ∧ fit = true ∧ StrIs (j ++ smA (ByteArray.extract j (Int.toNat (ari BinOp.sub IntKind.i64 ((((ByteArray.size j) : Nat) : Int)) (4 : Int))) ((ByteArray.size j))) (strOf [Value.int IntKind.u8 (IntKind.wrap IntKind.u8 (↑n : Int))] ++ strOf (Array.toList (Array.extract cs o (o + n))))) e ∧ (0 : Int) = (0 : Int)))) ∧ ((decide ((↑n : Int) > (200 : Int)) == false) = false → StrIs (ByteArray.mk #[]) ByteArray.empty ∧ (ok = false ∧ (3 : Int) = (3 : Int) ∨ ok = true ∧ fit = false ∧ (3 : Int) = (8 : Int)))) ∧ ((((↑n : Int) == (0 : Int)) == false) = false → StrIs (ByteArray.mk #[]) ByteArray.empty ∧ (ok = false ∧ (3 : Int) = (3 : Int) ∨ ok = true ∧ fit = false ∧ (3 : Int) = (8 : Int)))) ∧ ((decide (Prod.fst (finB j) < ByteArray.size j) == false) = false → StrIs (ByteArray.mk #[]) ByteArray.empty ∧ (ok = false ∧ (3 : Int) = (3 : Int) ∨ ok = true ∧ fit = false ∧ (3 : Int) = (8 : Int)))) ∧ (decide (ByteArray.size (Prod.snd (finB j)) ≠ (0 : Nat)) = false → ((decide (Prod.fst (finB j) < ByteArray.size j) == false) = true → ((((↑n : Int) == (0 : Int)) == false) = true → ((decide ((↑n : Int) > (200 : Int)) == false) = true → (BytOk cs o n ∧ True) ∧ ((!(decide (n ≤ (4000 : Nat)) && !anyB cs o n)) = true → StrIs (ByteArray.mk #[]) ByteArray.empty ∧ (ok = false ∧ (3 : Int) = (3 : Int) ∨ ok = true ∧ fit = false ∧ (3 : Int) = (8 : Int))) ∧ ((!(decide (n ≤ (4000 : Nat)) && !anyB cs o n)) = false → (decide (ari BinOp.add IntKind.i64 (0 : Int) (↑n : Int) > (4000 : Int)) = true → StrIs (ByteArray.mk #[]) ByteArray.empty ∧ (ok = false ∧ (8 : Int) = (3 : Int) ∨ ok = true ∧ fit = false ∧ (8 : Int) = (8 : Int))) ∧ (decide (ari BinOp.add IntKind.i64 (0 : Int) (↑n : Int) > (4000 : Int)) = false → ((0 : Int) ≤ ari BinOp.sub IntKind.i64 ((((ByteArray.size j) : Nat) : Int)) (4 : Int) ∧ (Int.toNat (ari BinOp.sub IntKind.i64 ((((ByteArray.size j) : Nat) : Int)) (4 : Int)) ≤ (ByteArray.size j)) ∧ True) ∧ (o + n ≤ Array.size cs ∧ (∀ (v : Value), List.Mem v (Array.toList (Array.extract cs o (o + n))) → Value.oneCell' v = true) ∧ AllU8 (Array.extract cs o (o + n)).1 ∧ True) ∧ ((↑(ByteArray.size (strOf [Value.int IntKind.u8 (IntKind.wrap IntKind.u8 (↑n : Int))]) + ByteArray.size (strOf (Array.toList (Array.extract cs o (o + n))))) : Int) ≤ (9223372036854775807 : Int) ∧ True) ∧ (ByteArray.size (ByteArray.extract j (Int.toNat (ari BinOp.sub IntKind.i64 ((((ByteArray.size j) : Nat) : Int)) (4 : Int))) ((ByteArray.size j))) + ByteArray.size (strOf [Value.int IntKind.u8 (IntKind.wrap IntKind.u8 (↑n : Int))] ++ strOf (Array.toList (Array.extract cs o (o + n)))) ≤ (1000000 : Nat) ∧ True) ∧ ((↑(ByteArray.size j + ByteArray.size (smA (ByteArray.extract j (Int.toNat (ari BinOp.sub IntKind.i64 ((((ByteArray.size j) : Nat) : Int)) (4 : Int))) ((ByteArray.size j))) (strOf [Value.int IntKind.u8 (IntKind.wrap IntKind.u8 (↑n : Int))] ++ strOf (Array.toList (Array.extract cs o (o + n)))))) : Int) ≤ (9223372036854775807 : Int) ∧ True) ∧ ok = true ∧ fit = true ∧ StrIs (j ++ smA (ByteArray.extract j (Int.toNat (ari BinOp.sub IntKind.i64 ((((ByteArray.size j) : Nat) : Int)) (4 : Int))) ((ByteArray.size j))) (strOf [Value.int IntKind.u8 (IntKind.wrap IntKind.u8 (↑n : Int))] ++ strOf (Array.toList (Array.extract cs o (o + n))))) e ∧ (0 : Int) = (0 : Int)))) ∧ ((decide ((↑n : Int) > (200 : Int)) == false) = false → StrIs (ByteArray.mk #[]) ByteArray.empty ∧ (ok = false ∧ (3 : Int) = (3 : Int) ∨ ok = true ∧ fit = false ∧ (3 : Int) = (8 : Int)))) ∧ ((((↑n : Int) == (0 : Int)) == false) = false → StrIs (ByteArray.mk #[]) ByteArray.empty ∧ (ok = false ∧ (3 : Int) = (3 : Int) ∨ ok = true ∧ fit = false ∧ (3 : Int) = (8 : Int)))) ∧ ((decide (Prod.fst (finB j) < ByteArray.size j) == false) = false → StrIs (ByteArray.mk #[]) ByteArray.empty ∧ (ok = false ∧ (3 : Int) = (3 : Int) ∨ ok = true ∧ fit = false ∧ (3 : Int) = (8 : Int))))) ∧ (okJ j = false → StrIs (ByteArray.mk #[]) ByteArray.empty ∧ (ok = false ∧ (3 : Int) = (3 : Int) ∨ ok = true ∧ fit = false ∧ (3 : Int) = (8 : Int)))) := by kernel_rfl
theorem ad_run_f (j : ByteArray) (o n : Nat) (cs : Array Value) (ty : TypeId) (ok fit : Bool) (e : ByteArray) : (run EA 1000 1 (addC j (slC 0 o n)) (prM false cs ty)).vc (adA ok fit e) (fun _ _ => False) =
    ((ByteArray.size j ≤ (100000 : Nat) ∧ True) ∧ (okJ j = true → (decide (ByteArray.size (Prod.snd (finB j)) ≠ (0 : Nat)) = true → ((decide (Prod.fst (finB j) < ByteArray.size j) == false) = true → ((((↑n : Int) == (0 : Int)) == false) = true → ((decide ((↑n : Int) > (200 : Int)) == false) = true → (BytOk cs o n ∧ True) ∧ ((!(decide (n ≤ (4000 : Nat)) && !anyB cs o n)) = true → StrIs (ByteArray.mk #[]) ByteArray.empty ∧ (ok = false ∧ (3 : Int) = (3 : Int) ∨ ok = true ∧ fit = false ∧ (3 : Int) = (8 : Int))) ∧ ((!(decide (n ≤ (4000 : Nat)) && !anyB cs o n)) = false → (decide (ari BinOp.add IntKind.i64 (↑(ByteArray.size (Prod.snd (finB j))) : Int) (↑n : Int) > (4000 : Int)) = true → StrIs (ByteArray.mk #[]) ByteArray.empty ∧ (ok = false ∧ (8 : Int) = (3 : Int) ∨ ok = true ∧ fit = false ∧ (8 : Int) = (8 : Int))) ∧ (decide (ari BinOp.add IntKind.i64 (↑(ByteArray.size (Prod.snd (finB j))) : Int) (↑n : Int) > (4000 : Int)) = false → ((0 : Int) ≤ ari BinOp.sub IntKind.i64 ((((ByteArray.size j) : Nat) : Int)) (4 : Int) ∧ (Int.toNat (ari BinOp.sub IntKind.i64 ((((ByteArray.size j) : Nat) : Int)) (4 : Int)) ≤ (ByteArray.size j)) ∧ True) ∧ (o + n ≤ Array.size cs ∧ AllU8 (Array.extract cs o (o + n)).1 ∧ True) ∧ ((↑(ByteArray.size (strOf [Value.int IntKind.u8 (IntKind.wrap IntKind.u8 (↑n : Int))]) + ByteArray.size (strOf (Array.toList (Array.extract cs o (o + n))))) : Int) ≤ (9223372036854775807 : Int) ∧ True) ∧ (ByteArray.size (ByteArray.extract j (Int.toNat (ari BinOp.sub IntKind.i64 ((((ByteArray.size j) : Nat) : Int)) (4 : Int))) ((ByteArray.size j))) + ByteArray.size (strOf [Value.int IntKind.u8 (IntKind.wrap IntKind.u8 (↑n : Int))] ++ strOf (Array.toList (Array.extract cs o (o + n)))) ≤ (1000000 : Nat) ∧ True) ∧ ((↑(ByteArray.size j + ByteArray.size (smA (ByteArray.extract j (Int.toNat (ari BinOp.sub IntKind.i64 ((((ByteArray.size j) : Nat) : Int)) (4 : Int))) ((ByteArray.size j))) (strOf [Value.int IntKind.u8 (IntKind.wrap IntKind.u8 (↑n : Int))] ++ strOf (Array.toList (Array.extract cs o (o + n)))))) : Int) ≤ (9223372036854775807 : Int) ∧ True) ∧ ok = true ∧ fit = true ∧ StrIs (j ++ smA (ByteArray.extract j (Int.toNat (ari BinOp.sub IntKind.i64 ((((ByteArray.size j) : Nat) : Int)) (4 : Int))) ((ByteArray.size j))) (strOf [Value.int IntKind.u8 (IntKind.wrap IntKind.u8 (↑n : Int))] ++ strOf (Array.toList (Array.extract cs o (o + n))))) e ∧ (0 : Int) = (0 : Int)))) ∧ ((decide ((↑n : Int) > (200 : Int)) == false) = false → StrIs (ByteArray.mk #[]) ByteArray.empty ∧ (ok = false ∧ (3 : Int) = (3 : Int) ∨ ok = true ∧ fit = false ∧ (3 : Int) = (8 : Int)))) ∧ ((((↑n : Int) == (0 : Int)) == false) = false → StrIs (ByteArray.mk #[]) ByteArray.empty ∧ (ok = false ∧ (3 : Int) = (3 : Int) ∨ ok = true ∧ fit = false ∧ (3 : Int) = (8 : Int)))) ∧ ((decide (Prod.fst (finB j) < ByteArray.size j) == false) = false → StrIs (ByteArray.mk #[]) ByteArray.empty ∧ (ok = false ∧ (3 : Int) = (3 : Int) ∨ ok = true ∧ fit = false ∧ (3 : Int) = (8 : Int)))) ∧ (decide (ByteArray.size (Prod.snd (finB j)) ≠ (0 : Nat)) = false → ((decide (Prod.fst (finB j) < ByteArray.size j) == false) = true → ((((↑n : Int) == (0 : Int)) == false) = true → ((decide ((↑n : Int) > (200 : Int)) == false) = true → (BytOk cs o n ∧ True) ∧ ((!(decide (n ≤ (4000 : Nat)) && !anyB cs o n)) = true → StrIs (ByteArray.mk #[]) ByteArray.empty ∧ (ok = false ∧ (3 : Int) = (3 : Int) ∨ ok = true ∧ fit = false ∧ (3 : Int) = (8 : Int))) ∧ ((!(decide (n ≤ (4000 : Nat)) && !anyB cs o n)) = false → (decide (ari BinOp.add IntKind.i64 (0 : Int) (↑n : Int) > (4000 : Int)) = true → StrIs (ByteArray.mk #[]) ByteArray.empty ∧ (ok = false ∧ (8 : Int) = (3 : Int) ∨ ok = true ∧ fit = false ∧ (8 : Int) = (8 : Int))) ∧ (decide (ari BinOp.add IntKind.i64 (0 : Int) (↑n : Int) > (4000 : Int)) = false → ((0 : Int) ≤ ari BinOp.sub IntKind.i64 ((((ByteArray.size j) : Nat) : Int)) (4 : Int) ∧ (Int.toNat (ari BinOp.sub IntKind.i64 ((((ByteArray.size j) : Nat) : Int)) (4 : Int)) ≤ (ByteArray.size j)) ∧ True) ∧ (o + n ≤ Array.size cs ∧ AllU8 (Array.extract cs o (o + n)).1 ∧ True) ∧ ((↑(ByteArray.size (strOf [Value.int IntKind.u8 (IntKind.wrap IntKind.u8 (↑n : Int))]) + ByteArray.size (strOf (Array.toList (Array.extract cs o (o + n))))) : Int) ≤ (9223372036854775807 : Int) ∧ True) ∧ (ByteArray.size (ByteArray.extract j (Int.toNat (ari BinOp.sub IntKind.i64 ((((ByteArray.size j) : Nat) : Int)) (4 : Int))) ((ByteArray.size j))) + ByteArray.size (strOf [Value.int IntKind.u8 (IntKind.wrap IntKind.u8 (↑n : Int))] ++ strOf (Array.toList (Array.extract cs o (o + n)))) ≤ (1000000 : Nat) ∧ True) ∧ ((↑(ByteArray.size j + ByteArray.size (smA (ByteArray.extract j (Int.toNat (ari BinOp.sub IntKind.i64 ((((ByteArray.size j) : Nat) : Int)) (4 : Int))) ((ByteArray.size j))) (strOf [Value.int IntKind.u8 (IntKind.wrap IntKind.u8 (↑n : Int))] ++ strOf (Array.toList (Array.extract cs o (o + n)))))) : Int) ≤ (9223372036854775807 : Int) ∧ True) ∧ ok = true ∧ fit = true ∧ StrIs (j ++ smA (ByteArray.extract j (Int.toNat (ari BinOp.sub IntKind.i64 ((((ByteArray.size j) : Nat) : Int)) (4 : Int))) ((ByteArray.size j))) (strOf [Value.int IntKind.u8 (IntKind.wrap IntKind.u8 (↑n : Int))] ++ strOf (Array.toList (Array.extract cs o (o + n))))) e ∧ (0 : Int) = (0 : Int)))) ∧ ((decide ((↑n : Int) > (200 : Int)) == false) = false → StrIs (ByteArray.mk #[]) ByteArray.empty ∧ (ok = false ∧ (3 : Int) = (3 : Int) ∨ ok = true ∧ fit = false ∧ (3 : Int) = (8 : Int)))) ∧ ((((↑n : Int) == (0 : Int)) == false) = false → StrIs (ByteArray.mk #[]) ByteArray.empty ∧ (ok = false ∧ (3 : Int) = (3 : Int) ∨ ok = true ∧ fit = false ∧ (3 : Int) = (8 : Int)))) ∧ ((decide (Prod.fst (finB j) < ByteArray.size j) == false) = false → StrIs (ByteArray.mk #[]) ByteArray.empty ∧ (ok = false ∧ (3 : Int) = (3 : Int) ∨ ok = true ∧ fit = false ∧ (3 : Int) = (8 : Int))))) ∧ (okJ j = false → StrIs (ByteArray.mk #[]) ByteArray.empty ∧ (ok = false ∧ (3 : Int) = (3 : Int) ∨ ok = true ∧ fit = false ∧ (3 : Int) = (8 : Int)))) := by kernel_rfl
theorem ad_e0 (j : ByteArray) (ok fit : Bool) (e : ByteArray) : (run EA 1000 0 (addC j (.f .e0)) M0).vc (adA ok fit e) (fun _ _ => False) =
    ((ByteArray.size j ≤ (100000 : Nat) ∧ True) ∧ (okJ j = true → (decide (ByteArray.size (Prod.snd (finB j)) ≠ (0 : Nat)) = true → ((decide (Prod.fst (finB j) < ByteArray.size j) == false) = true → StrIs (ByteArray.mk #[]) ByteArray.empty ∧ (ok = false ∧ (3 : Int) = (3 : Int) ∨ ok = true ∧ fit = false ∧ (3 : Int) = (8 : Int))) ∧ ((decide (Prod.fst (finB j) < ByteArray.size j) == false) = false → StrIs (ByteArray.mk #[]) ByteArray.empty ∧ (ok = false ∧ (3 : Int) = (3 : Int) ∨ ok = true ∧ fit = false ∧ (3 : Int) = (8 : Int)))) ∧ (decide (ByteArray.size (Prod.snd (finB j)) ≠ (0 : Nat)) = false → ((decide (Prod.fst (finB j) < ByteArray.size j) == false) = true → StrIs (ByteArray.mk #[]) ByteArray.empty ∧ (ok = false ∧ (3 : Int) = (3 : Int) ∨ ok = true ∧ fit = false ∧ (3 : Int) = (8 : Int))) ∧ ((decide (Prod.fst (finB j) < ByteArray.size j) == false) = false → StrIs (ByteArray.mk #[]) ByteArray.empty ∧ (ok = false ∧ (3 : Int) = (3 : Int) ∨ ok = true ∧ fit = false ∧ (3 : Int) = (8 : Int))))) ∧ (okJ j = false → StrIs (ByteArray.mk #[]) ByteArray.empty ∧ (ok = false ∧ (3 : Int) = (3 : Int) ∨ ok = true ∧ fit = false ∧ (3 : Int) = (8 : Int)))) := by kernel_rfl
end Go.Proofs.Ytapkbgccbmjfaaa
/- Of journal: whether picks that came in may be, and Add, as contracts. No condition. -/
namespace Go.Proofs.Ytapkbgccbmjfaaa
set_option linter.unusedSectionVars false
set_option linter.unusedVariables false
set_option maxRecDepth 100000
set_option maxHeartbeats 2000000
theorem mq_good (v : Bool) (o n : Nat) (cs : Array Value) (ty : TypeId) (hB : BytOk cs o n) : Good Try.prog (boolR (decide (n ≤ 4000) && !anyB cs o n)) 1 (mqC o n) (prM v cs ty) := by
  have hc : (decide ((n : Int) > (4000 : Int)) = true → false = (decide (n ≤ 4000) && !anyB cs o n)) ∧ (decide ((n : Int) > (4000 : Int)) = false → (rowOk false cs o n ∧ True) ∧ (!anyV false cs o n) = (decide (n ≤ 4000) && !anyB cs o n)) := by
    refine ⟨fun h => ?_, fun h => ⟨⟨hB, trivial⟩, ?_⟩⟩
    · have h := of_decide_eq_true h
      rw [decide_eq_false (p := n ≤ 4000) (by omega)]; rfl
    · have h := of_decide_eq_false h
      rw [decide_eq_true (p := n ≤ 4000) (by omega)]; rfl
  cases v with
  | true => exact run_vc EP_ok 1000 (mq_run_t o n cs ty _) hc (fun _ _ h => h) (fun _ _ h => h.elim)
  | false => exact run_vc EP_ok 1000 (mq_run_f o n cs ty _) hc (fun _ _ h => h) (fun _ _ h => h.elim)
theorem rowX_of {m : SMem} {i : Nat} {v : Bool} {cs : Array Value} (h : rowX m i = some (v, cs)) : ∃ a ty wr, getB m.bl i = some ⟨a, ty, wr⟩ ∧ ∀ R cs', a.okM R cs' → (prA v cs).okM R cs' := by
  unfold rowX at h
  split at h
  · rename_i e; cases h; exact ⟨_, _, _, e, fun R cs' h => h⟩
  · rename_i e
    cases h
    refine ⟨_, _, _, e, fun R cs' h => ?_⟩
    have h : cs' = cs ∧ ∀ v ∈ cs'.toList, v.oneCell' = true := h
    obtain ⟨e1, h2⟩ := h
    subst e1
    exact ⟨by rw [← Array.length_toList, List.take_length], h2⟩
  · rename_i e; cases h; exact ⟨_, _, _, e, fun R cs' h => h⟩
  · cases h
theorem mqT_ok {m : SMem} {x : SV} {t : Tree} (h : mqT m x = some t) : Con E0 32 [x] m t := by
  unfold mqT at h
  split at h
  · rename_i i o n c
    split at h
    · rename_i v cs hr
      cases h
      obtain ⟨a, ty, wr, hb, hcs⟩ := rowX_of hr
      refine Con.ro E0_ok (l' := [.s (.c (slC 0 o.den n.den))]) (ms := prM v cs ty) (A := boolR (decide (n.den ≤ 4000) && !anyB cs o.den n.den)) fn32p body32p rfl (fun _ => i) ?_ ?_ (fun hq => mq_good v o.den n.den cs ty (hq _ (by simp))) (fun _ _ _ _ _ => boolR_con)
      · intro j b hj
        obtain ⟨rfl, rfl⟩ := prM_get hj
        exact ⟨Nat.zero_lt_one, rfl, _, hb, rfl, fun R cs' h => prA_pull R cs' (hcs R cs' h)⟩
      · intro R vs ha
        match vs, ha with
        | [u], ha => exact ⟨sl_pull ha.1 Nat.zero_lt_one rfl rfl, trivial⟩
    · cases h
  · cases h
theorem conA_ok (g : FuncId) (l : List SV) (m : SMem) (t : Tree) (h : conA g l m = some t) : Con E0 g l m t := by
  unfold conA at h
  split at h
  · exact reT_ok h
  · exact smT_ok h
  · exact mqT_ok h
  · cases h
theorem EA_ok : EnvOk EA := EnvOk.with E0_ok _ _ conA_ok
theorem scan_le {b : ByteArray} : ∀ (K a : Nat) (q : ByteArray), a ≤ b.size → q.size ≤ 4000 → a ≤ (scanA b K a q).1 ∧ (scanA b K a q).1 ≤ b.size ∧ (scanA b K a q).2.size ≤ 4000
  | 0, a, q, ha, hq => ⟨Nat.le_refl _, ha, hq⟩
  | K + 1, a, q, ha, hq => by
    cases h : recOk b a q.size with
    | false => rw [scan_no h]; exact ⟨Nat.le_refl _, ha, hq⟩
    | true =>
      rw [scan_yes h]
      have h1 := h
      unfold recOk recW at h1
      simp only [Bool.and_eq_true, decide_eq_true_eq] at h1
      obtain ⟨⟨⟨⟨h1, h2, h3, h5⟩, _⟩, _⟩, h6⟩ := h1
      have hs := recP_size (b := b) (a := a) (by omega)
      have := scan_le K (recE b a + 4) (q ++ recP b a) (by omega) (by rw [ByteArray.size_append]; omega)
      have he : recE b a = a + 1 + recN b a := rfl
      omega
theorem fin_le {b : ByteArray} (h : okJ b = true) : 10 ≤ b.size ∧ 10 ≤ (finB b).1 ∧ (finB b).1 ≤ b.size ∧ (finB b).2.size ≤ 4000 := by
  have hp : preH b = true := by
    unfold okJ at h
    rw [Bool.and_eq_true] at h
    exact h.1
  have h1 := pre_size hp
  have hl := end_le b
  have := scan_le (b := b) (b.size + 1) (endN b + 4) .empty h1.2 (by show 0 ≤ 4000; omega)
  unfold finB
  omega
theorem pkQ_size {cs : Array Value} {o n : Nat} (h : o + n ≤ cs.size) : (pkQ cs o n).size = n := by
  unfold pkQ
  rw [strOf_size, Array.length_toList, Array.size_extract]
  omega
theorem ext_u8 {cs : Array Value} {o n : Nat} (h : BytOk cs o n) : AllU8 (cs.extract o (o + n)).toList := by
  intro v hv
  obtain ⟨i, hi⟩ := List.getElem?_of_mem hv
  rw [Array.getElem?_toList, Array.getElem?_extract] at hi
  split at hi
  · rename_i hl
    have e := h.2 i (by omega)
    unfold IsInt at e
    rw [e] at hi
    cases hi
    exact ⟨_, rfl⟩
  · cases hi
theorem u8_one {l : List Value} (h : AllU8 l) : ∀ v : Value, List.Mem v l → v.oneCell' = true := fun v hv => by
  obtain ⟨n, rfl⟩ := h v hv
  rfl
theorem rco_n {j q : ByteArray} {n : Nat} (h : q.size = n) : strOf [Value.int .u8 (IntKind.wrap .u8 (n : Int))] ++ q = rcoB j q := by
  subst h; rfl
section
variable (j : ByteArray) (hj : j.size ≤ 90000)
include hj
theorem ad_good (v : Bool) (o n : Nat) (cs : Array Value) (ty : TypeId) (hB : BytR cs o n) : Good Try.prog (adA (adOk j n (anyB cs o n)) (adF j n) (adR j (pkQ cs o n))) 1 (addC j (slC 0 o n)) (prM v cs ty) := by
  have nJ : okJ j = false → adOk j n (anyB cs o n) = false := fun h => by unfold adOk; rw [h, Bool.false_and]
  have nT : (decide ((finB j).1 < j.size) == false) = false → adOk j n (anyB cs o n) = false := fun h => by
    have h : decide ((finB j).1 < j.size) = true := by simpa using h
    unfold adOk; rw [h, Bool.not_true, Bool.false_and, Bool.and_false]
  have nN : ¬ (1 ≤ n ∧ n ≤ 200) → adOk j n (anyB cs o n) = false := fun h => by unfold adOk; rw [decide_eq_false h, Bool.false_and, Bool.and_false, Bool.and_false]
  have nB : (!(decide (n ≤ 4000) && !anyB cs o n)) = true → n ≤ 200 → adOk j n (anyB cs o n) = false := fun h hn => by
    rw [decide_eq_true (p := n ≤ 4000) (by omega), Bool.true_and, Bool.not_not] at h
    unfold adOk; rw [h, Bool.not_true, Bool.and_false, Bool.and_false, Bool.and_false]
  have yes : okJ j = true → (decide ((finB j).1 < j.size) == false) = true → 1 ≤ n ∧ n ≤ 200 → (!(decide (n ≤ 4000) && !anyB cs o n)) = false → adOk j n (anyB cs o n) = true := fun h1 h2 h3 h4 => by
    have h2 : decide ((finB j).1 < j.size) = false := by simpa using h2
    have h4 : anyB cs o n = false := by
      rw [decide_eq_true (p := n ≤ 4000) (by omega), Bool.true_and, Bool.not_not] at h4
      exact h4
    unfold adOk; rw [h1, h2, h4, decide_eq_true h3]; rfl
  have hz := pkQ_size hB.2.1
  have h8 := ext_u8 hB.1
  have h1c := u8_one h8
  have hle := hB.2.1
  have e1 : 4 ≤ j.size → ari .sub .i64 ((j.size : Nat) : Int) 4 = ((j.size - 4 : Nat) : Int) := fun h => by rw [ari_sub, Go.IntWalk.i64_in _ (by omega)]; omega
  have hX : (j.extract (j.size - 4) j.size).size ≤ 4 := by rw [ext_size]; omega
  have hrz : (rcoB j (pkQ cs o n)).size = 1 + n := by unfold rcoB; rw [ByteArray.size_append, strOf_size, hz]; rfl
  have hsz : (rcoR j (pkQ cs o n)).size = 5 + n := by unfold rcoR smA; rw [ByteArray.size_append, fourB_size, hrz]; omega
  have h1z : (strOf [Value.int .u8 (IntKind.wrap .u8 (n : Int))]).size = 1 := strOf_size _
  have fitY : (finB j).2.size + n ≤ 4000 → adF j n = true := fun h => decide_eq_true h
  have fitN : ¬ (finB j).2.size + n ≤ 4000 → adF j n = false := fun h => decide_eq_false h
  have hrco := rco_n (j := j) hz
  have hadr : adR j (pkQ cs o n) = j ++ rcoR j (pkQ cs o n) := rfl
  have hrcr : smA (j.extract (j.size - 4) j.size) (rcoB j (pkQ cs o n)) = rcoR j (pkQ cs o n) := rfl
  have hfl : okJ j = true → 10 ≤ j.size ∧ (finB j).2.size ≤ 4000 := fun h => ⟨(fin_le h).1, (fin_le h).2.2.2⟩
  have hpk : strOf (cs.extract o (o + n)).toList = pkQ cs o n := rfl
  generalize adR j (pkQ cs o n) = AR at *
  generalize adF j n = F at *
  generalize hO : adOk j n (anyB cs o n) = O at *
  have hN : O = false → StrIs (ByteArray.mk #[]) ByteArray.empty ∧ (O = false ∧ (3 : Int) = 3 ∨ O = true ∧ F = false ∧ (3 : Int) = 8) := fun h => ⟨rfl, .inl ⟨h, rfl⟩⟩
  have hL : O = true → F = false → StrIs (ByteArray.mk #[]) ByteArray.empty ∧ (O = false ∧ (8 : Int) = 3 ∨ O = true ∧ F = false ∧ (8 : Int) = 8) := fun h h' => ⟨rfl, .inr ⟨h, h', rfl⟩⟩
  cases v with
  | true =>
    refine run_vc EA_ok 1000 (ad_run_t j o n cs ty O F AR) ?_ (fun _ _ h => h) (fun _ _ h => h.elim)
    rw [hpk, hrco]
    refine ⟨⟨by omega, trivial⟩, fun hJ => ⟨fun hw => ?_, fun hw => ?_⟩, fun hJ => hN (nJ hJ)⟩
    all_goals
      obtain ⟨f1, f2⟩ := hfl hJ
      have e1 := e1 (by omega)
      rw [e1, Int.toNat_natCast, hrcr]
      refine ⟨fun h1 => ⟨fun h2 => ⟨fun h3 => ?_, fun h3 => hN (nN ?_)⟩, fun h2 => hN (nN ?_)⟩, fun h1 => hN (nT h1)⟩
      · have h2 : ¬ n = 0 := by simpa using h2
        have h3 : ¬ n > 200 := by have : decide ((n : Int) > 200) = false := (by simpa using h3); have := of_decide_eq_false this; omega
        refine ⟨⟨hB.1, trivial⟩, fun h4 => hN (nB h4 (by omega)), fun h4 => ?_⟩
        have hok := yes hJ h1 ⟨by omega, by omega⟩ h4
        rw [ari_add, Go.IntWalk.i64_in _ (by omega)]
        refine ⟨fun h5 => hL hok (fitN ?_), fun h5 => ⟨⟨by omega, by omega, trivial⟩, ⟨hle, h1c, h8, trivial⟩, ⟨by omega, trivial⟩, ⟨by omega, trivial⟩, ⟨by omega, trivial⟩, hok, fitY ?_, hadr.symm, rfl⟩⟩
        · have h5 := of_decide_eq_true h5
          first | omega | (have hw := of_decide_eq_false hw; omega)
        · have h5 := of_decide_eq_false h5
          first | omega | (have hw := of_decide_eq_false hw; omega)
      · have : decide ((n : Int) > 200) = true := (by simpa using h3)
        have := of_decide_eq_true this
        omega
      · have h2 : n = 0 := by simpa using h2
        omega
  | false =>
    refine run_vc EA_ok 1000 (ad_run_f j o n cs ty O F AR) ?_ (fun _ _ h => h) (fun _ _ h => h.elim)
    rw [hpk, hrco]
    refine ⟨⟨by omega, trivial⟩, fun hJ => ⟨fun hw => ?_, fun hw => ?_⟩, fun hJ => hN (nJ hJ)⟩
    all_goals
      obtain ⟨f1, f2⟩ := hfl hJ
      have e1 := e1 (by omega)
      rw [e1, Int.toNat_natCast, hrcr]
      refine ⟨fun h1 => ⟨fun h2 => ⟨fun h3 => ?_, fun h3 => hN (nN ?_)⟩, fun h2 => hN (nN ?_)⟩, fun h1 => hN (nT h1)⟩
      · have h2 : ¬ n = 0 := by simpa using h2
        have h3 : ¬ n > 200 := by have : decide ((n : Int) > 200) = false := (by simpa using h3); have := of_decide_eq_false this; omega
        refine ⟨⟨hB.1, trivial⟩, fun h4 => hN (nB h4 (by omega)), fun h4 => ?_⟩
        have hok := yes hJ h1 ⟨by omega, by omega⟩ h4
        rw [ari_add, Go.IntWalk.i64_in _ (by omega)]
        refine ⟨fun h5 => hL hok (fitN ?_), fun h5 => ⟨⟨by omega, by omega, trivial⟩, ⟨hle, h8, trivial⟩, ⟨by omega, trivial⟩, ⟨by omega, trivial⟩, ⟨by omega, trivial⟩, hok, fitY ?_, hadr.symm, rfl⟩⟩
        · have h5 := of_decide_eq_true h5
          first | omega | (have hw := of_decide_eq_false hw; omega)
        · have h5 := of_decide_eq_false h5
          first | omega | (have hw := of_decide_eq_false hw; omega)
      · have : decide ((n : Int) > 200) = true := (by simpa using h3)
        have := of_decide_eq_true this
        omega
      · have h2 : n = 0 := by simpa using h2
        omega
theorem ad_good0 : Good Try.prog (adA false false .empty) 0 (addC j (.f .e0)) M0 := by
  refine run_vc EA_ok 1000 (ad_e0 j false false .empty) ?_ (fun _ _ h => h) (fun _ _ h => h.elim)
  have hN : StrIs (ByteArray.mk #[]) ByteArray.empty ∧ (false = false ∧ (3 : Int) = 3 ∨ false = true ∧ false = false ∧ (3 : Int) = 8) := ⟨rfl, .inl ⟨rfl, rfl⟩⟩
  have hj : j.size ≤ 100000 := by omega
  repeat' first | exact trivial | exact hj | exact hN | apply And.intro | intro _
end
end Go.Proofs.Ytapkbgccbmjfaaa
/- Of journal: Add's contract; JournalAdds' run: states. No condition. -/
namespace Go.Proofs.Ytapkbgccbmjfaaa
set_option linter.unusedSectionVars false
set_option linter.unusedVariables false
set_option maxRecDepth 100000
theorem adA_yes {e : ByteArray} {s : SV} {m' : SMem} {R R' : Ren} {v : Value} (h : adA true true e s m') (hv : s.ok R' v) : (SV.tup [.c (.f (.opq (.string e))), .c (.f (.int .i64 (.l 0)))]).ok R v := by
  unfold adA at h
  split at h
  · rename_i s y
    obtain ⟨_, _, he, hy⟩ := h
    have he : s = e := he
    obtain ⟨us, rfl, hl⟩ := hv
    match hvs : us.toList, hl with
    | [a, c], hl =>
      refine ⟨us, rfl, ?_⟩
      rw [hvs]
      obtain ⟨ha, hc, _⟩ := hl
      have hc : c = .int .i64 y.den := hc
      rw [hy] at hc
      rw [he] at ha
      exact ⟨ha, hc, trivial⟩
  · rcases h.2 with h | h
    · exact absurd h.1 (by decide)
    · exact absurd h.2.1 (by decide)
  · exact h.elim
theorem adA_no {ok fit : Bool} {e : ByteArray} {s : SV} {m' : SMem} {R R' : Ren} {v : Value} {y0 : Int} (hf : (ok && fit) = false) (h0 : y0 = if ok then 8 else 3) (h : adA ok fit e s m') (hv : s.ok R' v) : (SV.tup [.c (.f (.lit (.string ⟨⟨[]⟩⟩))), .c (.f (.int .i64 (.l y0)))]).ok R v := by
  unfold adA at h
  split at h
  · rw [h.1, h.2.1] at hf
    exact absurd hf (by decide)
  · rename_i s y
    obtain ⟨he, h⟩ := h
    have he : s = ByteArray.empty := he
    have hy : y.den = y0 := by
      rcases h with ⟨h1, h2⟩ | ⟨h1, _, h2⟩
      · rw [h0, h1]; exact h2
      · rw [h0, h1]; exact h2
    obtain ⟨us, rfl, hl⟩ := hv
    match hvs : us.toList, hl with
    | [a, c], hl =>
      refine ⟨us, rfl, ?_⟩
      rw [hvs]
      obtain ⟨ha, hc, _⟩ := hl
      have hc : c = .int .i64 y.den := hc
      rw [hy] at hc
      rw [he] at ha
      exact ⟨ha, hc, trivial⟩
  · exact h.elim
theorem fn18a : E0.fn 18 = some Try.f18 := by kernel_rfl
theorem body18a : Try.f18.body = some (Try.f18.body.getD .skip) := by kernel_rfl
theorem adT_ok {m : SMem} {x y : SV} {t : Tree} (h : adT m x y = some t) : Con E0 18 [x, y] m t := by
  unfold adT at h
  split at h
  · rename_i j i o n c hj
    split at h
    · rename_i v cs hr
      cases h
      obtain ⟨a, ty, wr, hb, hcs⟩ := rowX_of hr
      have go : ∀ (s0 : SV), (∀ s m' R R' w, adA (adOk j n.den (anyB cs o.den n.den)) (adF j n.den) (adR j (pkQ cs o.den n.den)) s m' → s.ok R' w → s0.ok R w) → Con E0 18 [x, .s (.c (.f (.slice i o n c)))] m (needs [j.size ≤ 90000, BytR cs o.den n.den] (.ret s0 m)) := fun s0 hs => by
        refine Con.ro E0_ok (l' := [strV' j, .s (.c (slC 0 o.den n.den))]) (ms := prM v cs ty) (A := adA (adOk j n.den (anyB cs o.den n.den)) (adF j n.den) (adR j (pkQ cs o.den n.den))) fn18a body18a rfl (fun _ => i) ?_ ?_ (fun hq => ad_good j (hq _ (by simp)) v o.den n.den cs ty (hq _ (by simp))) hs
        · intro j b hj
          obtain ⟨rfl, rfl⟩ := prM_get hj
          exact ⟨Nat.zero_lt_one, rfl, _, hb, rfl, fun R cs' h => prA_pull R cs' (hcs R cs' h)⟩
        · intro R vs ha
          match vs, ha with
          | [u, w], ha => exact ⟨strX_ok hj ha.1, sl_pull ha.2.1 Nat.zero_lt_one rfl rfl, trivial⟩
      refine Con.br (fun h1 => Con.br (fun h2 => ?_) fun h2 => ?_) fun h1 => ?_
      · exact go _ fun s m' R R' w hA hw => adA_yes (by rw [h1, h2] at hA; exact hA) hw
      · exact go _ fun s m' R R' w hA hw => adA_no (by rw [h2, Bool.and_false]) (by rw [h1]; rfl) hA hw
      · exact go _ fun s m' R R' w hA hw => adA_no (by rw [h1, Bool.false_and]) (by rw [h1]; rfl) hA hw
    · cases h
  · rename_i j hj
    cases h
    refine Con.ro E0_ok (l' := [strV' j, .s (.c (.f .e0))]) (ms := M0) (A := adA false false .empty) fn18a body18a rfl (fun i => i) no_blocks (fun R vs hv => ?_) (fun hq => ad_good0 j (hq _ (by simp))) (fun s m' R R' w hA hw => adA_no (by rfl) (by rfl) hA hw)
    match vs, hv with
    | [u, w], hv => exact ⟨strX_ok hj hv.1, hv.2.1, trivial⟩
  · cases h
noncomputable section
end
end Go.Proofs.Ytapkbgccbmjfaaa
/- Of journal: JournalAdds' runs, as propositions. No condition. -/
namespace Go.Proofs.Ytapkbgccbmjfaaa
set_option maxRecDepth 100000
end Go.Proofs.Ytapkbgccbmjfaaa
/- Of journal: JournalAdds' runs end with true. No condition. -/
namespace Go.Proofs.Ytapkbgccbmjfaaa
set_option linter.unusedSectionVars false
set_option linter.unusedVariables false
set_option maxRecDepth 100000
set_option maxHeartbeats 2000000
theorem okJ_iff {b : ByteArray} (h : okJ b = true) : preH b = true ∧ okD (cB b) = true ∧ (leftB (cB b)).size = 0 := by
  unfold okJ at h
  rw [Bool.and_eq_true, Bool.and_eq_true] at h
  obtain ⟨h1, h2, h3⟩ := h
  refine ⟨h1, h2, ?_⟩
  have h3 : decide ((leftB (cB b)).size ≠ 0) = false := by simpa using h3
  have := of_decide_eq_false h3
  omega
theorem adOk_iff {j : ByteArray} {n : Nat} {any : Bool} : adOk j n any = true ↔ okJ j = true ∧ ¬ (finB j).1 < j.size ∧ (1 ≤ n ∧ n ≤ 200) ∧ any = false := by
  unfold adOk
  rw [Bool.and_eq_true, Bool.and_eq_true, Bool.and_eq_true, Bool.not_eq_true', Bool.not_eq_true', decide_eq_true_eq, decide_eq_false_iff_not]
end Go.Proofs.Ytapkbgccbmjfaaa
/- Of journal: JournalKeeps' and JournalTears' journals: states. No condition. -/
namespace Go.Proofs.Ytapkbgccbmjfaaa
noncomputable section
def cx (w : Bool) (o n : Nat) : SC := cond w (slC 1 o n) (.f .e0)
def M2 (cs ds : Array Value) (ty tz : TypeId) : SMem := ⟨2, ((Tr.nil : Tr SBlk).set 0 (some ⟨.raw cs, ty, false⟩)).set 1 (some ⟨.raw ds, tz, false⟩), []⟩
def conK (g : FuncId) (l : List SV) (m : SMem) : Option Tree := match g, l with
  | 9, [] => some (needs [] (.ret (sB (.l true)) m))
  | 14, [x] => m9T m x
  | 16, [x] => reT m x
  | 18, [x, y] => adT m x y
  | 22, [x, y] => sameT14 m x y
  | 23, [x] => greatT m x
  | 24, [x] => encN m x
  | 25, [x, y] => smT m x y
  | _, _ => none
def EK : Env := ⟨Try.prog, fnOf, conK, fun _ f x => (Nat.beq f 21 || (Nat.beq f 6 || Nat.beq f 7)) && isLoop x⟩
def EKn : Env := ⟨Try.prog, fnOf, conK, fun _ f x => Nat.beq f 21 && isLoop x⟩
def dropAll (l : List Nat) : List SFr → List SFr
  | ⟨fn, tm, td, dfs, md, kind, rnd⟩ :: cs => ⟨fn, l.foldl (fun T p => T.set p none) tm, td, dfs, md, kind, rnd⟩ :: cs
  | [] => []
def onTail (f : List SFr → List SFr) : List SFr → List SFr
  | x :: l => x :: f l
  | [] => []
def l21 : List Nat := (List.range 110).filter fun i => !(Nat.blt i 3 || (Nat.ble 4 i && Nat.ble i 8) || (Nat.ble 10 i && Nat.ble i 13))
def scB (P : Int) (o n : Nat) (q : ByteArray) : SBlk := ⟨.ls [.f (.int .i64 (.o P)), .f (.slice 0 (.o o) (.o n) .any), .f (.opq (.string q))], 24, true⟩
end
end Go.Proofs.Ytapkbgccbmjfaaa
/- Of journal: law 7: its states. No condition. -/
namespace Go.Proofs.Ytapkbgccbmjfaaa
noncomputable section
section
variable (w : Bool) (P : Int) (o n : Nat) (q : ByteArray) (o' n' : Nat) (e d : Int) (cs ds : Array Value) (ty tz : TypeId)
def y7C (w : Bool) (P : Int) (o n : Nat) (q : ByteArray) (o' n' : Nat) (e d : Int) : List SFr := [callFr 7 Try.f7.ntmps [refV P (slC 0 o n) q, .s (.c (cx w o' n')), .s (.c (.f (.int .u16 (.o e)))), .s (.c (.f (.int .u8 (.o d))))] (Try.f7.body.getD .skip)]
def l7 : List Nat := (List.range 160).filter fun i => !(Nat.ble i 4 || Nat.beq i 8)
def y7R : Tree := (run EK 1000 2 (y7C w P o n q o' n' e d) (M2 cs ds ty tz)).pick [true, false, true]
def y7F0 (j : ByteArray) : List SFr := onTail (dropAll l7) (setSl [(8, strV' j)] (dropAll l21 ((y7R w P o n q o' n' e d cs ds ty tz).fsE.map SFr.bare)))
def y7M0 (j : ByteArray) : SMem := ⟨12, (((((Tr.nil.set 0 (some ⟨.raw cs, ty, false⟩)).set 1 (some ⟨.raw ds, tz, false⟩)).set 2 (some (scB P o n q))).set 4 (some (scB P o n q))).set 10 (some ⟨.ls [.f (.int .i64 (.o (j.size : Int)))], 3, true⟩)).set 11 (some ⟨.ls [.f (.int .i64 (.l 0))], 3, true⟩), []⟩
def y7N0 (Q : ByteArray → Prop) (fs : List SFr) (m : SMem) : Prop := match fs with
  | f :: _ => match f.tm.get 8 with
    | some x => match strS x with
      | some (_, j) => Q j ∧ subOk 2 [(2, 2), (4, 4), (10, 10), (11, 11)] (y7F0 w P o n q o' n' e d cs ds ty tz j) (y7M0 P o n q cs ds ty tz j) fs m
      | none => False
    | none => False
  | [] => False
def y7S0 (j : ByteArray) : Tree := stepT EK.go (run EK 1000) 2 (headF (y7F0 w P o n q o' n' e d cs ds ty tz j)) (y7M0 P o n q cs ds ty tz j)
def y7S0n (j : ByteArray) : Tree := stepT EKn.go (run EKn 1000) 2 (headF (y7F0 w P o n q o' n' e d cs ds ty tz j)) (y7M0 P o n q cs ds ty tz j)
def y7F1 (j : ByteArray) (k k' : Nat) (at' i : Int) : List SFr := setSl [(10, .s (.c (.f (.slice 5 (.l 0) (.o k) (.full 1))))), (11, .s (.c (.f (.slice 6 (.l 0) (.o k') (.full 1))))), (12, i64 (.o at')), (13, i64 (.o i))] (y7F0 w P o n q o' n' e d cs ds ty tz j)
def y7M1 (es ts : Array Value) : SMem := ⟨7, (((((Tr.nil.set 0 (some ⟨.raw cs, ty, false⟩)).set 1 (some ⟨.raw ds, tz, false⟩)).set 2 (some (scB P o n q))).set 4 (some (scB P o n q))).set 5 (some ⟨.pop es, 3, true⟩)).set 6 (some ⟨.pop ts, 3, true⟩), []⟩
def y7N1 (Q : ByteArray → Nat → Array Value → Nat → Array Value → Int → Int → Prop) (fs : List SFr) (m : SMem) : Prop := match fs with
  | f :: _ => match f.tm.get 8, rdS f 10 m, rdS f 11 m, rdI f 12, rdI f 13 with
    | some x, some (some (sid, k, es)), some (some (tid, k', ts)), some at', some i => match strS x with
      | some (_, j) => Q j k es k' ts at' i ∧ subOk 2 [(2, 2), (4, 4), (5, sid), (6, tid)] (headF (y7F1 w P o n q o' n' e d cs ds ty tz j k k' at' i)) (y7M1 P o n q cs ds ty tz es ts) fs m
      | none => False
    | _, _, _, _, _ => False
  | [] => False
def y7S1 (j : ByteArray) (k k' : Nat) (at' i : Int) (es ts : Array Value) : Tree := stepT EK.go (run EK 1000) 2 (headF (y7F1 w P o n q o' n' e d cs ds ty tz j k k' at' i)) (y7M1 P o n q cs ds ty tz es ts)
end
def y7T0 : List SIt := headTd (y7F0 true 0 0 0 .empty 0 0 0 0 #[] #[] 0 0 .empty)
def y7H0 : List SIt := headTd (headF (y7F0 true 0 0 0 .empty 0 0 0 0 #[] #[] 0 0 .empty))
def y7T1 : List SIt := headTd ((y7F0 true 0 0 0 .empty 0 0 0 0 #[] #[] 0 0 .empty).drop 1)
end
end Go.Proofs.Ytapkbgccbmjfaaa
