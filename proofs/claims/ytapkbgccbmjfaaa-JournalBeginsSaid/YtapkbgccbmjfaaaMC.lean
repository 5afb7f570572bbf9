/- Of journal: the reference's Decode's rounds and Same's, as propositions. No condition. -/
import Derived.Test.YtapkbgccbmjfaaaMB
import Derived.Laws.BitsAllLaws
import Derived.Test.YtapkbgccbmjfaaaMA
import Derived.Test.YtapkbgccbmjfaaaRows
import Derived.Test.YtapkbgccbmjfaaaE1
import Derived.ProofKit
import Derived.OpenShut
import Derived.ChangeSame
import Derived.Deep.Slices
import Derived.Deep.Fields
namespace Go.Proofs.Ytapkbgccbmjfaaa
set_option maxRecDepth 100000
theorem f_start (b : ByteArray) (ok : Bool) (P : Int) (n : Nat) (q : ByteArray) (rs : Array Value) (Q0 : Int → Int → Int → Int → Prop) : (gR EJ 0 (fC b) M0).vc (fA ok P n q rs) (fN0 b Q0) =
    ((decide (((((ByteArray.size b) : Nat) : Int)) < (2 : Int)) = true → ok = false ∧ (0 : Int) = (0 : Int) ∧ false = false ∧ True) ∧ (decide (((((ByteArray.size b) : Nat) : Int)) < (2 : Int)) = false → (((0 : Int) ≤ (0 : Int) ∧ (0 : Int) < (↑((ByteArray.size b)) : Int)) ∧ True) ∧ (((0 : Int) ≤ (1 : Int) ∧ (1 : Int) < (↑((ByteArray.size b)) : Int)) ∧ True) ∧ Q0 (IntKind.wrap IntKind.i64 (byteAt b (1 : Nat))) (2 : Int) (0 : Int) (IntKind.wrap IntKind.i64 (byteAt b (0 : Nat))) ∧ CallKind.normal = CallKind.normal ∧ TodoOk (ren 0 [(0, 0), (1, 1)]) fT0 fT0 ∧ Value.string b = Value.string b ∧ (0 : Int) = (0 : Int) ∧ IntKind.wrap IntKind.i64 (byteAt b (1 : Nat)) = IntKind.wrap IntKind.i64 (byteAt b (1 : Nat)) ∧ (2 : Int) = (2 : Int) ∧ (24 : Nat) = (24 : Nat) ∧ Value.slice none (0 : Nat) (0 : Nat) = Value.slice none (0 : Nat) (0 : Nat) ∧ Value.string (ByteArray.mk #[]) = Value.string (ByteArray.mk #[]) ∧ (24 : Nat) = (24 : Nat) ∧ IntKind.wrap IntKind.i64 (byteAt b (0 : Nat)) = IntKind.wrap IntKind.i64 (byteAt b (0 : Nat)) ∧ Value.slice none (0 : Nat) (0 : Nat) = Value.slice none (0 : Nat) (0 : Nat) ∧ Value.string (ByteArray.mk (Array.mk [])) = Value.string (ByteArray.mk #[]) ∧ True)) := by kernel_rfl
theorem f_first (b : ByteArray) (P n a i : Int) (ok : Bool) (P' : Int) (n' : Nat) (q' : ByteArray) (rs' : Array Value) (Q0 : Int → Int → Int → Int → Prop) (Q1 : Int → Int → Int → Int → Nat → Array Value → Prop) : (fS0 b P n a i).vc (fA ok P' n' q' rs') (fN b Q0 Q1) =
    ((decide (i < n) = true → (decide (a ≥ (((ByteArray.size b) : Nat) : Int)) = true → ok = false ∧ (0 : Int) = (0 : Int) ∧ false = false ∧ True) ∧ (decide (a ≥ (((ByteArray.size b) : Nat) : Int)) = false → (((0 : Int) ≤ a ∧ a < (↑((ByteArray.size b)) : Int)) ∧ True) ∧ (decide (ari BinOp.add IntKind.i64 (ari BinOp.add IntKind.i64 a (1 : Int)) (ari BinOp.mul IntKind.i64 (6 : Int) (IntKind.wrap IntKind.i64 (byteAt b (Int.toNat a)))) > (((ByteArray.size b) : Nat) : Int)) = true → ok = false ∧ (0 : Int) = (0 : Int) ∧ false = false ∧ True) ∧ (decide (ari BinOp.add IntKind.i64 (ari BinOp.add IntKind.i64 a (1 : Int)) (ari BinOp.mul IntKind.i64 (6 : Int) (IntKind.wrap IntKind.i64 (byteAt b (Int.toNat a)))) > (((ByteArray.size b) : Nat) : Int)) = false → ((0 : Int) ≤ ari BinOp.add IntKind.i64 (ari BinOp.add IntKind.i64 a (1 : Int)) (ari BinOp.mul IntKind.i64 (6 : Int) (IntKind.wrap IntKind.i64 (byteAt b (Int.toNat a)))) ∧ (Int.toNat (ari BinOp.add IntKind.i64 (ari BinOp.add IntKind.i64 a (1 : Int)) (ari BinOp.mul IntKind.i64 (6 : Int) (IntKind.wrap IntKind.i64 (byteAt b (Int.toNat a))))) ≤ (ByteArray.size b)) ∧ (0 : Int) ≤ ari BinOp.add IntKind.i64 a (1 : Int) ∧ Int.toNat (ari BinOp.add IntKind.i64 a (1 : Int)) ≤ Int.toNat (ari BinOp.add IntKind.i64 (ari BinOp.add IntKind.i64 a (1 : Int)) (ari BinOp.mul IntKind.i64 (6 : Int) (IntKind.wrap IntKind.i64 (byteAt b (Int.toNat a))))) ∧ True) ∧ Q1 n (ari BinOp.add IntKind.i64 (ari BinOp.add IntKind.i64 a (1 : Int)) (ari BinOp.mul IntKind.i64 (6 : Int) (IntKind.wrap IntKind.i64 (byteAt b (Int.toNat a))))) (ari BinOp.add IntKind.i64 i (1 : Int)) P (1 : Nat) #[Value.string (ByteArray.extract b (Int.toNat (ari BinOp.add IntKind.i64 a (1 : Int))) (Int.toNat (ari BinOp.add IntKind.i64 (ari BinOp.add IntKind.i64 a (1 : Int)) (ari BinOp.mul IntKind.i64 (6 : Int) (IntKind.wrap IntKind.i64 (byteAt b (Int.toNat a)))))))] ∧ CallKind.normal = CallKind.normal ∧ TodoOk (ren 0 [(0, 0), (1, 1), (2, 3)]) fH0 fH0 ∧ Value.string b = Value.string b ∧ ari BinOp.add IntKind.i64 i (1 : Int) = ari BinOp.add IntKind.i64 i (1 : Int) ∧ n = n ∧ ari BinOp.add IntKind.i64 (ari BinOp.add IntKind.i64 a (1 : Int)) (ari BinOp.mul IntKind.i64 (6 : Int) (IntKind.wrap IntKind.i64 (byteAt b (Int.toNat a)))) = ari BinOp.add IntKind.i64 (ari BinOp.add IntKind.i64 a (1 : Int)) (ari BinOp.mul IntKind.i64 (6 : Int) (IntKind.wrap IntKind.i64 (byteAt b (Int.toNat a)))) ∧ (24 : Nat) = (24 : Nat) ∧ Value.slice none (0 : Nat) (0 : Nat) = Value.slice none (0 : Nat) (0 : Nat) ∧ Value.string (ByteArray.mk #[]) = Value.string (ByteArray.mk #[]) ∧ (24 : Nat) = (24 : Nat) ∧ P = P ∧ (1 : Nat) = (1 : Nat) ∧ Value.string (ByteArray.mk (Array.mk [])) = Value.string (ByteArray.mk (Array.mk [])) ∧ (9 : TypeId) = (9 : Nat) ∧ #[Value.string (ByteArray.extract b (Int.toNat (ari BinOp.add IntKind.i64 a (1 : Int))) (Int.toNat (ari BinOp.add IntKind.i64 (ari BinOp.add IntKind.i64 a (1 : Int)) (ari BinOp.mul IntKind.i64 (6 : Int) (IntKind.wrap IntKind.i64 (byteAt b (Int.toNat a)))))))] = #[Value.string (ByteArray.extract b (Int.toNat (ari BinOp.add IntKind.i64 a (1 : Int))) (Int.toNat (ari BinOp.add IntKind.i64 (ari BinOp.add IntKind.i64 a (1 : Int)) (ari BinOp.mul IntKind.i64 (6 : Int) (IntKind.wrap IntKind.i64 (byteAt b (Int.toNat a)))))))] ∧ True))) ∧ (decide (i < n) = false → ((0 : Int) ≤ a ∧ (Int.toNat a ≤ (ByteArray.size b)) ∧ True) ∧ ok = false ∧ (0 : Int) = (0 : Int) ∧ false = false ∧ True)) := by kernel_rfl
theorem f_step (b : ByteArray) (P n a i : Int) (k : Nat) (rs : Array Value) (ok : Bool) (P' : Int) (n' : Nat) (q' : ByteArray) (rs' : Array Value) (Q0 : Int → Int → Int → Int → Prop) (Q1 : Int → Int → Int → Int → Nat → Array Value → Prop) : (fS1 b P n a i k rs).vc (fA ok P' n' q' rs') (fN b Q0 Q1) =
    ((decide (i < n) = true → (decide (a ≥ (((ByteArray.size b) : Nat) : Int)) = true → ok = false ∧ (0 : Int) = (0 : Int) ∧ false = false ∧ True) ∧ (decide (a ≥ (((ByteArray.size b) : Nat) : Int)) = false → (((0 : Int) ≤ a ∧ a < (↑((ByteArray.size b)) : Int)) ∧ True) ∧ (decide (ari BinOp.add IntKind.i64 (ari BinOp.add IntKind.i64 a (1 : Int)) (ari BinOp.mul IntKind.i64 (6 : Int) (IntKind.wrap IntKind.i64 (byteAt b (Int.toNat a)))) > (((ByteArray.size b) : Nat) : Int)) = true → ok = false ∧ (0 : Int) = (0 : Int) ∧ false = false ∧ True) ∧ (decide (ari BinOp.add IntKind.i64 (ari BinOp.add IntKind.i64 a (1 : Int)) (ari BinOp.mul IntKind.i64 (6 : Int) (IntKind.wrap IntKind.i64 (byteAt b (Int.toNat a)))) > (((ByteArray.size b) : Nat) : Int)) = false → ((0 : Int) ≤ ari BinOp.add IntKind.i64 (ari BinOp.add IntKind.i64 a (1 : Int)) (ari BinOp.mul IntKind.i64 (6 : Int) (IntKind.wrap IntKind.i64 (byteAt b (Int.toNat a)))) ∧ (Int.toNat (ari BinOp.add IntKind.i64 (ari BinOp.add IntKind.i64 a (1 : Int)) (ari BinOp.mul IntKind.i64 (6 : Int) (IntKind.wrap IntKind.i64 (byteAt b (Int.toNat a))))) ≤ (ByteArray.size b)) ∧ (0 : Int) ≤ ari BinOp.add IntKind.i64 a (1 : Int) ∧ Int.toNat (ari BinOp.add IntKind.i64 a (1 : Int)) ≤ Int.toNat (ari BinOp.add IntKind.i64 (ari BinOp.add IntKind.i64 a (1 : Int)) (ari BinOp.mul IntKind.i64 (6 : Int) (IntKind.wrap IntKind.i64 (byteAt b (Int.toNat a))))) ∧ True) ∧ (((k + 1) * 16 ≤ (140737488355328 : Nat) ∧ k + 1 ≤ (140737488355328 : Nat)) ∧ k * 1 = Array.size rs ∧ True) ∧ Q1 n (ari BinOp.add IntKind.i64 (ari BinOp.add IntKind.i64 a (1 : Int)) (ari BinOp.mul IntKind.i64 (6 : Int) (IntKind.wrap IntKind.i64 (byteAt b (Int.toNat a))))) (ari BinOp.add IntKind.i64 i (1 : Int)) P (k + 1) (rs ++ #[Value.string (ByteArray.extract b (Int.toNat (ari BinOp.add IntKind.i64 a (1 : Int))) (Int.toNat (ari BinOp.add IntKind.i64 (ari BinOp.add IntKind.i64 a (1 : Int)) (ari BinOp.mul IntKind.i64 (6 : Int) (IntKind.wrap IntKind.i64 (byteAt b (Int.toNat a)))))))]) ∧ CallKind.normal = CallKind.normal ∧ TodoOk (ren 0 [(0, 0), (1, 1), (2, 4)]) fH0 fH0 ∧ Value.string b = Value.string b ∧ ari BinOp.add IntKind.i64 i (1 : Int) = ari BinOp.add IntKind.i64 i (1 : Int) ∧ n = n ∧ ari BinOp.add IntKind.i64 (ari BinOp.add IntKind.i64 a (1 : Int)) (ari BinOp.mul IntKind.i64 (6 : Int) (IntKind.wrap IntKind.i64 (byteAt b (Int.toNat a)))) = ari BinOp.add IntKind.i64 (ari BinOp.add IntKind.i64 a (1 : Int)) (ari BinOp.mul IntKind.i64 (6 : Int) (IntKind.wrap IntKind.i64 (byteAt b (Int.toNat a)))) ∧ (24 : Nat) = (24 : Nat) ∧ Value.slice none (0 : Nat) (0 : Nat) = Value.slice none (0 : Nat) (0 : Nat) ∧ Value.string (ByteArray.mk #[]) = Value.string (ByteArray.mk #[]) ∧ (24 : Nat) = (24 : Nat) ∧ P = P ∧ k + 1 = k + 1 ∧ Value.string (ByteArray.mk (Array.mk [])) = Value.string (ByteArray.mk (Array.mk [])) ∧ (9 : TypeId) = (9 : Nat) ∧ rs ++ #[Value.string (ByteArray.extract b (Int.toNat (ari BinOp.add IntKind.i64 a (1 : Int))) (Int.toNat (ari BinOp.add IntKind.i64 (ari BinOp.add IntKind.i64 a (1 : Int)) (ari BinOp.mul IntKind.i64 (6 : Int) (IntKind.wrap IntKind.i64 (byteAt b (Int.toNat a)))))))] = rs ++ #[Value.string (ByteArray.extract b (Int.toNat (ari BinOp.add IntKind.i64 a (1 : Int))) (Int.toNat (ari BinOp.add IntKind.i64 (ari BinOp.add IntKind.i64 a (1 : Int)) (ari BinOp.mul IntKind.i64 (6 : Int) (IntKind.wrap IntKind.i64 (byteAt b (Int.toNat a)))))))] ∧ True))) ∧ (decide (i < n) = false → ((0 : Int) ≤ a ∧ (Int.toNat a ≤ (ByteArray.size b)) ∧ True) ∧ (StrR rs (0 : Nat) k ∧ True) ∧ ((!mayS P (0 : Nat) k (ByteArray.size (ByteArray.extract b (Int.toNat a) ((ByteArray.size b)))) rs (celA (ByteArray.extract b (Int.toNat a) ((ByteArray.size b))))) = true → ok = false ∧ (0 : Int) = (0 : Int) ∧ false = false ∧ True) ∧ ((!mayS P (0 : Nat) k (ByteArray.size (ByteArray.extract b (Int.toNat a) ((ByteArray.size b)))) rs (celA (ByteArray.extract b (Int.toNat a) ((ByteArray.size b))))) = false → ok = true ∧ P' = P ∧ n' = k ∧ Value.string q' = Value.string (ByteArray.extract b (Int.toNat a) ((ByteArray.size b))) ∧ (9 : TypeId) = (9 : TypeId) ∧ rs' = rs ∧ True))) := by kernel_rfl
theorem f_none (b : ByteArray) (ok : Bool) (P : Int) (n : Nat) (q : ByteArray) (rs : Array Value) : (run EJn 1000 0 (fC b) M0).follow (fA ok P n q rs) (fun _ _ => False) [true] =
    (decide (((((ByteArray.size b) : Nat) : Int)) < (2 : Int)) = true ∧ ok = false ∧ (0 : Int) = (0 : Int) ∧ false = false ∧ True) := by kernel_rfl
theorem s2_start_t (P : Int) (n k : Nat) (P' : Int) (o n' : Nat) (q : ByteArray) (rs cs bs : Array Value) (ty tz tb : TypeId) (Q : Int → Prop) : (gR EV 3 (smC P n (smB true k) P' o n' q) (s2M true rs cs bs ty tz tb)).vc (boolR true) (s2N false true P n k P' o n' q rs cs bs ty tz tb Q) =
    ((((P != P') == false) = true → ((((↑n : Int) != (↑n' : Int)) == false) = true → ((0 : Nat) + k ≤ Array.size bs ∧ AllU8 (Array.extract bs (0 : Nat) ((0 : Nat) + k)).1 ∧ True) ∧ ((!ByteArray.toList (strOf (Array.toList (Array.extract bs (0 : Nat) ((0 : Nat) + k)))) == ByteArray.toList q) = true → false = true) ∧ ((!ByteArray.toList (strOf (Array.toList (Array.extract bs (0 : Nat) ((0 : Nat) + k)))) == ByteArray.toList q) = false → Q (0 : Int) ∧ CallKind.normal = CallKind.normal ∧ TodoOk (ren 3 [(3, 3), (4, 4)]) s2T0 s2T0 ∧ P = P ∧ n = n ∧ k = k ∧ P' = P' ∧ o = o ∧ n' = n' ∧ Value.string q = Value.string q ∧ P = P ∧ Value.string (strOf (Array.toList (Array.extract bs (0 : Nat) ((0 : Nat) + k)))) = Value.string (strOf (Array.toList (Array.extract bs (0 : Nat) ((0 : Nat) + k)))) ∧ ((↑n : Int) != (↑n' : Int)) = ((↑n : Int) != (↑n' : Int)) ∧ (0 : Int) = (0 : Int) ∧ P' = P' ∧ (↑n' : Int) = (↑n' : Int) ∧ Value.string q = Value.string q ∧ n = n ∧ o = o ∧ n' = n' ∧ (P != P') = (P != P') ∧ ((↑n : Int) != (↑n' : Int)) = ((↑n : Int) != (↑n' : Int)) ∧ ((match mkSB (false && false) !ByteArray.toList (strOf (Array.toList (Array.extract bs (0 : Nat) ((0 : Nat) + k)))) == ByteArray.toList q with | SB.l b => b | SB.o b => b) = match mkSB (false && false) !ByteArray.toList (strOf (Array.toList (Array.extract bs (0 : Nat) ((0 : Nat) + k)))) == ByteArray.toList q with | SB.l b => b | SB.o b => b) ∧ (↑n : Int) = (↑n : Int) ∧ k = k ∧ ty = ty ∧ rs = rs ∧ tz = tz ∧ cs = cs ∧ (32 : Nat) = (32 : Nat) ∧ P = P ∧ n = n ∧ k = k ∧ tb = tb ∧ bs = bs ∧ (24 : Nat) = (24 : Nat) ∧ P' = P' ∧ o = o ∧ n' = n' ∧ Value.string q = Value.string q ∧ True)) ∧ ((((↑n : Int) != (↑n' : Int)) == false) = false → false = true)) ∧ (((P != P') == false) = false → false = true)) := by kernel_rfl
theorem s2_start_f (P : Int) (n k : Nat) (P' : Int) (o n' : Nat) (q : ByteArray) (rs cs bs : Array Value) (ty tz tb : TypeId) (Q : Int → Prop) : (gR EV 2 (smC P n (smB false k) P' o n' q) (s2M false rs cs bs ty tz tb)).vc (boolR true) (s2N false false P n k P' o n' q rs cs bs ty tz tb Q) =
    ((((P != P') == false) = true → ((((↑n : Int) != (↑n' : Int)) == false) = true → ((!ByteArray.toList ByteArray.empty == ByteArray.toList q) = true → false = true) ∧ ((!ByteArray.toList ByteArray.empty == ByteArray.toList q) = false → Q (0 : Int) ∧ CallKind.normal = CallKind.normal ∧ TodoOk (ren 2 [(2, 2), (3, 3)]) s2T0 s2T0 ∧ P = P ∧ n = n ∧ Value.slice none (0 : Nat) (0 : Nat) = Value.slice none (0 : Nat) (0 : Nat) ∧ P' = P' ∧ o = o ∧ n' = n' ∧ Value.string q = Value.string q ∧ P = P ∧ Value.string ByteArray.empty = Value.string ByteArray.empty ∧ ((↑n : Int) != (↑n' : Int)) = ((↑n : Int) != (↑n' : Int)) ∧ (0 : Int) = (0 : Int) ∧ P' = P' ∧ (↑n' : Int) = (↑n' : Int) ∧ Value.string q = Value.string q ∧ n = n ∧ o = o ∧ n' = n' ∧ (P != P') = (P != P') ∧ ((↑n : Int) != (↑n' : Int)) = ((↑n : Int) != (↑n' : Int)) ∧ ((match mkSB (true && false) !ByteArray.toList ByteArray.empty == ByteArray.toList q with | SB.l b => b | SB.o b => b) = match mkSB (true && false) !ByteArray.toList ByteArray.empty == ByteArray.toList q with | SB.l b => b | SB.o b => b) ∧ (↑n : Int) = (↑n : Int) ∧ Value.slice none (0 : Nat) (0 : Nat) = Value.slice none (0 : Nat) (0 : Nat) ∧ ty = ty ∧ rs = rs ∧ tz = tz ∧ cs = cs ∧ (24 : Nat) = (24 : Nat) ∧ P' = P' ∧ o = o ∧ n' = n' ∧ Value.string q = Value.string q ∧ (32 : Nat) = (32 : Nat) ∧ P = P ∧ n = n ∧ Value.slice none (0 : Nat) (0 : Nat) = Value.slice none (0 : Nat) (0 : Nat) ∧ True)) ∧ ((((↑n : Int) != (↑n' : Int)) == false) = false → false = true)) ∧ (((P != P') == false) = false → false = true)) := by kernel_rfl
theorem s2_step_t (P : Int) (n k : Nat) (P' : Int) (o n' : Nat) (q : ByteArray) (rs cs bs : Array Value) (ty tz tb : TypeId) (i : Int) (Q : Int → Prop) : (gS EV 3 (smC P n (smB true k) P' o n' q) (s2M true rs cs bs ty tz tb) [(5, i64 (.o i))] []).vc (boolR true) (s2N true true P n k P' o n' q rs cs bs ty tz tb Q) =
    ((decide (i < (↑n : Int)) = true → (((0 : Int) ≤ i ∧ i < (↑n : Int)) ∧ True) ∧ (rs[(0 : Nat) + Int.toNat i * 1]? = some (Value.string (strAt rs ((0 : Nat) + Int.toNat i * 1))) ∧ True) ∧ (((0 : Int) ≤ i ∧ i < (↑n' : Int)) ∧ True) ∧ (cs[o + Int.toNat i * 1]? = some (Value.string (strAt cs (o + Int.toNat i * 1))) ∧ True) ∧ ((!ByteArray.toList (strAt rs ((0 : Nat) + Int.toNat i * 1)) == ByteArray.toList (strAt cs (o + Int.toNat i * 1))) = true → false = true) ∧ ((!ByteArray.toList (strAt rs ((0 : Nat) + Int.toNat i * 1)) == ByteArray.toList (strAt cs (o + Int.toNat i * 1))) = false → Q (ari BinOp.add IntKind.i64 i (1 : Int)) ∧ CallKind.normal = CallKind.normal ∧ TodoOk (ren 3 [(3, 3), (4, 4)]) s2H0 s2H0 ∧ P = P ∧ n = n ∧ k = k ∧ P' = P' ∧ o = o ∧ n' = n' ∧ Value.string q = Value.string q ∧ P = P ∧ Value.string (strOf (Array.toList (Array.extract bs (0 : Nat) ((0 : Nat) + k)))) = Value.string (strOf (Array.toList (Array.extract bs (0 : Nat) ((0 : Nat) + k)))) ∧ ((↑n : Int) != (↑n' : Int)) = ((↑n : Int) != (↑n' : Int)) ∧ ari BinOp.add IntKind.i64 i (1 : Int) = ari BinOp.add IntKind.i64 i (1 : Int) ∧ P' = P' ∧ (↑n' : Int) = (↑n' : Int) ∧ Value.string q = Value.string q ∧ n = n ∧ o = o ∧ n' = n' ∧ (P != P') = (P != P') ∧ ((↑n : Int) != (↑n' : Int)) = ((↑n : Int) != (↑n' : Int)) ∧ ((match mkSB (false && false) !ByteArray.toList (strOf (Array.toList (Array.extract bs (0 : Nat) ((0 : Nat) + k)))) == ByteArray.toList q with | SB.l b => b | SB.o b => b) = match mkSB (false && false) !ByteArray.toList (strOf (Array.toList (Array.extract bs (0 : Nat) ((0 : Nat) + k)))) == ByteArray.toList q with | SB.l b => b | SB.o b => b) ∧ (↑n : Int) = (↑n : Int) ∧ k = k ∧ ty = ty ∧ rs = rs ∧ tz = tz ∧ cs = cs ∧ (32 : Nat) = (32 : Nat) ∧ P = P ∧ n = n ∧ k = k ∧ tb = tb ∧ bs = bs ∧ (24 : Nat) = (24 : Nat) ∧ P' = P' ∧ o = o ∧ n' = n' ∧ Value.string q = Value.string q ∧ True)) ∧ (decide (i < (↑n : Int)) = false → true = true)) := by kernel_rfl
theorem s2_step_f (P : Int) (n k : Nat) (P' : Int) (o n' : Nat) (q : ByteArray) (rs cs bs : Array Value) (ty tz tb : TypeId) (i : Int) (Q : Int → Prop) : (gS EV 2 (smC P n (smB false k) P' o n' q) (s2M false rs cs bs ty tz tb) [(5, i64 (.o i))] []).vc (boolR true) (s2N true false P n k P' o n' q rs cs bs ty tz tb Q) =
    ((decide (i < (↑n : Int)) = true → (((0 : Int) ≤ i ∧ i < (↑n : Int)) ∧ True) ∧ (rs[(0 : Nat) + Int.toNat i * 1]? = some (Value.string (strAt rs ((0 : Nat) + Int.toNat i * 1))) ∧ True) ∧ (((0 : Int) ≤ i ∧ i < (↑n' : Int)) ∧ True) ∧ (cs[o + Int.toNat i * 1]? = some (Value.string (strAt cs (o + Int.toNat i * 1))) ∧ True) ∧ ((!ByteArray.toList (strAt rs ((0 : Nat) + Int.toNat i * 1)) == ByteArray.toList (strAt cs (o + Int.toNat i * 1))) = true → false = true) ∧ ((!ByteArray.toList (strAt rs ((0 : Nat) + Int.toNat i * 1)) == ByteArray.toList (strAt cs (o + Int.toNat i * 1))) = false → Q (ari BinOp.add IntKind.i64 i (1 : Int)) ∧ CallKind.normal = CallKind.normal ∧ TodoOk (ren 2 [(2, 2), (3, 3)]) s2H0 s2H0 ∧ P = P ∧ n = n ∧ Value.slice none (0 : Nat) (0 : Nat) = Value.slice none (0 : Nat) (0 : Nat) ∧ P' = P' ∧ o = o ∧ n' = n' ∧ Value.string q = Value.string q ∧ P = P ∧ Value.string ByteArray.empty = Value.string ByteArray.empty ∧ ((↑n : Int) != (↑n' : Int)) = ((↑n : Int) != (↑n' : Int)) ∧ ari BinOp.add IntKind.i64 i (1 : Int) = ari BinOp.add IntKind.i64 i (1 : Int) ∧ P' = P' ∧ (↑n' : Int) = (↑n' : Int) ∧ Value.string q = Value.string q ∧ n = n ∧ o = o ∧ n' = n' ∧ (P != P') = (P != P') ∧ ((↑n : Int) != (↑n' : Int)) = ((↑n : Int) != (↑n' : Int)) ∧ ((match mkSB (true && false) !ByteArray.toList ByteArray.empty == ByteArray.toList q with | SB.l b => b | SB.o b => b) = match mkSB (true && false) !ByteArray.toList ByteArray.empty == ByteArray.toList q with | SB.l b => b | SB.o b => b) ∧ (↑n : Int) = (↑n : Int) ∧ Value.slice none (0 : Nat) (0 : Nat) = Value.slice none (0 : Nat) (0 : Nat) ∧ ty = ty ∧ rs = rs ∧ tz = tz ∧ cs = cs ∧ (24 : Nat) = (24 : Nat) ∧ P' = P' ∧ o = o ∧ n' = n' ∧ Value.string q = Value.string q ∧ (32 : Nat) = (32 : Nat) ∧ P = P ∧ n = n ∧ Value.slice none (0 : Nat) (0 : Nat) = Value.slice none (0 : Nat) (0 : Nat) ∧ True)) ∧ (decide (i < (↑n : Int)) = false → true = true)) := by kernel_rfl
end Go.Proofs.Ytapkbgccbmjfaaa
/- Of journal: the reference's Decode answers as it is told; Same of two rows of one's own. No condition. -/
namespace Go.Proofs.Ytapkbgccbmjfaaa
set_option linter.unusedSectionVars false
set_option linter.unusedVariables false
set_option maxRecDepth 100000
/-! The reference's May, as a contract. -/
theorem fnU9 : E0.fn 14 = some Try.f14 := by kernel_rfl
theorem bodyU9 : Try.f14.body = some (Try.f14.body.getD .skip) := by kernel_rfl
theorem m9M0 {P : Int} {x : SC} {q : ByteArray} (hx : x = nilC ∨ x = .f .e0) (m : SMem) : Con E0 14 [refV P x q] m (.ret (sB (.l false)) m) := by
  refine Con.ro E0_ok (l := [refV P x q]) (l' := [refV P x q]) (ms := M0) (m := m) (q := []) (A := boolR false) fnU9 bodyU9 rfl (fun i => i) (fun i b hb => by
    have hb : (Tr.nil : Tr SBlk).get i = some b := hb
    rw [Tr.get_nil] at hb; cases hb) (fun R vs ha => ?_) (fun _ => m9_none P q x hx) (fun s m' R R' v h hv => ?_)
  · rcases hx with rfl | rfl
    · match vs, ha with
      | [v], ha => exact ⟨agg3 ha.1 (fun _ h => h) (fun _ h => h) (fun _ h => h), trivial⟩
    · match vs, ha with
      | [v], ha => exact ⟨agg3 ha.1 (fun _ h => h) (fun _ h => h) (fun _ h => h), trivial⟩
  · unfold boolR at h
    split at h
    · rename_i x
      have hv : v = .bool x.den := hv
      rw [h] at hv
      exact hv
    · exact h.elim
theorem m9T_ok {m : SMem} {x : SV} {t : Tree} (h : m9T m x = some t) : Con E0 14 [x] m t := by
  unfold m9T at h
  split at h
  · rename_i P i o n c q
    split at h
    · rename_i v cs hr
      cases h
      obtain ⟨ty, wr, hb⟩ := rowV_of hr
      refine Con.ro E0_ok (l' := [refV P (slC 0 o.den n.den) q]) (ms := prM v cs ty) (A := boolR (mayS P o.den n.den q.size cs (celA q))) fnU9 bodyU9 rfl (fun _ => i) ?_ ?_ (fun hq => m9_good P o.den n.den q cs ty v (hq _ (List.mem_cons_self ..))) (fun _ _ _ _ _ => boolR_con)
      · intro j b hj
        obtain ⟨rfl, rfl⟩ := prM_get hj
        exact ⟨Nat.zero_lt_one, rfl, _, hb, rfl, fun R cs' h => prA_pull R cs' h⟩
      · intro R vs ha
        match vs, ha with
        | [u], ha => exact ⟨agg3 ha.1 (fun _ h => h) (fun _ h => sl_pull h Nat.zero_lt_one rfl rfl) (fun _ h => h), trivial⟩
    · cases h
  · cases h
    exact m9M0 (.inr rfl) m
  · cases h
    exact m9M0 (.inl rfl) m
  · cases h
theorem conJ_ok (g : FuncId) (l : List SV) (m : SMem) (t : Tree) (h : conJ g l m = some t) : Con E0 g l m t := by
  unfold conJ at h
  split at h
  · exact m9T_ok h
  · cases h
theorem EJ_ok : EnvOk EJ := EnvOk.with E0_ok _ _ conJ_ok
theorem EJn_ok : EnvOk EJn := EnvOk.with E0_ok _ _ conJ_ok
/-! Decode. -/
theorem fT0_ok : TodoOk (ren 0 [(0, 0), (1, 1)]) fT0 fT0 := TodoOk.same (by kernel_rfl)
theorem fH0_ok (i : Nat) : TodoOk (ren 0 [(0, 0), (1, 1), (2, i)]) fH0 fH0 := TodoOk.same (by kernel_rfl)
theorem fN_good {b : ByteArray} {A : SV → SMem → Prop} {Q1 : Int → Int → Int → Int → Nat → Array Value → Prop}
    (hg1 : ∀ n a i P k rs, Q1 n a i P k rs → Good EJ.P A 0 (headF (fF b n a i)) (fM1 b P k rs)) {fs : List SFr} {m : SMem} (hb : fN b (fun _ _ _ _ => False) Q1 fs m) : Good EJ.P A 0 fs m := by
  unfold fN at hb
  generalize fF b = F at hb hg1
  generalize fM0 b = M at hb
  generalize fM1 b = M1 at hb hg1
  split at hb
  · split at hb
    · exact hb.1.elim
    · split at hb
      · exact Good.of_sub hb.2 (hg1 _ _ _ _ _ _ hb.1)
      · exact hb.elim
    · exact hb.elim
  · exact hb.elim
theorem fM0_next (b : ByteArray) (P : Int) : idFrom 0 (fM0 b P).next = idFrom 0 2 := by kernel_rfl
theorem fN0_good {b : ByteArray} {A : SV → SMem → Prop} {Q0 : Int → Int → Int → Int → Prop} (hg0 : ∀ n a i P, Q0 n a i P → Good EJ.P A 0 (headF (fF b n a i)) (fM0 b P)) {fs : List SFr} {m : SMem} (hb : fN0 b Q0 fs m) : Good EJ.P A 0 fs m := by
  have he := fM0_next b
  unfold fN0 at hb
  generalize fF b = F at hb hg0
  generalize fM0 b = M at hb hg0 he
  split at hb
  · split at hb
    · rename_i n a i P _ _ _ _ _
      rw [← he P] at hb
      exact Good.of_sub hb.2 (Good.head (hg0 _ _ _ _ hb.1))
    · exact hb.elim
  · exact hb.elim
/-- What it shows, by its bytes. -/
def fAb (b : ByteArray) : SV → SMem → Prop := fA (okD b) (byteAt b 0) (numB b) (leftB b) (rowP b (numB b))
theorem prg_size' (b : ByteArray) (j : Nat) : (prg b j).size ≤ 1530 := by
  have := byteAt_range b (posB b j)
  unfold prg
  rw [ext_size, posB]
  omega
theorem rowP_strR (b : ByteArray) {j : Nat} (hj : j < 9223372036854775807) : StrR (rowP b j) 0 j := ⟨hj, fun t ht => by
  rw [Nat.zero_add]
  obtain ⟨h1, h2⟩ := rowP_str (b := b) ht
  have := prg_size' b t
  exact ⟨h2, by rw [h1]; omega⟩⟩
section
variable (b : ByteArray) (hb : b.size < 140737488355328) (h2 : 2 ≤ b.size)
include hb h2
theorem f_pos {j : Nat} (hp : posB b j < b.size) : ari BinOp.add IntKind.i64 ((posB b j : Nat) : Int) 1 = ((posB b j + 1 : Nat) : Int) ∧ ari BinOp.add IntKind.i64 ((posB b j + 1 : Nat) : Int) (ari BinOp.mul IntKind.i64 6 (IntKind.wrap IntKind.i64 (byteAt b (posB b j)))) = ((posB b (j + 1) : Nat) : Int) := by
  have hr := byteAt_range b (posB b j)
  refine ⟨by rw [ari_add]; exact i64_nat (by omega), ?_⟩
  rw [byte_mul hr, ari_add, posB, Go.IntWalk.i64_in _ (by omega)]
  omega
theorem f_round : ∀ (K j : Nat), numB b - j < K → 1 ≤ j → j ≤ numB b → fitsB b j = true → Good EJ.P (fAb b) 0 (headF (fF b (numB b : Int) (posB b j : Int) (j : Int))) (fM1 b (byteAt b 0) j (rowP b j)) := by
  intro K
  induction K with
  | zero => intro j h; omega
  | succ K ih =>
    intro j hk hj1 hj hf
    have hn255 : numB b ≤ 255 := (numB_le b).1
    have hp := pos_le h2 hf
    refine past_vc EJ_ok 1000 (f_step b (byteAt b 0) (numB b : Int) (posB b j : Int) (j : Int) j (rowP b j) _ _ _ _ _ (fun _ _ _ _ => False) (fun n' a' i' P' k' rs' => ∃ t : Nat, n' = (numB b : Int) ∧ a' = (posB b t : Int) ∧ i' = t ∧ P' = byteAt b 0 ∧ k' = t ∧ rs' = rowP b t ∧ numB b - t < K ∧ 1 ≤ t ∧ t ≤ numB b ∧ fitsB b t = true)) ?_ (fun _ _ h => h)
      (fun fs m hb' => fN_good (fun n' a' i' P' k' rs' ⟨t, e1, e2, e3, e4, e5, e6, q1, q2, q3, q4⟩ => by rw [e1, e2, e3, e4, e5, e6]; exact ih t q1 q2 q3 q4) hb')
    rw [Int.toNat_natCast]
    refine ⟨fun h => ⟨fun h1 => ?_, fun h1 => ?_⟩, fun h => ?_⟩
    · have hlt : j < numB b := by have := of_decide_eq_true h; omega
      have h1 := of_decide_eq_true h1
      exact ⟨okD_no hlt (by unfold fitsB; rw [hf, Bool.true_and]; exact decide_eq_false (by omega)), rfl, rfl, trivial⟩
    · have hlt : j < numB b := by have := of_decide_eq_true h; omega
      have h1 := of_decide_eq_false h1
      have hpj : posB b j < b.size := by omega
      obtain ⟨a1, a2⟩ := f_pos b hb h2 hpj
      rw [a1, a2, Int.toNat_natCast, Int.toNat_natCast]
      refine ⟨⟨⟨by omega, by omega⟩, trivial⟩, fun h3 => ?_, fun h3 => ?_⟩
      · have h3 := of_decide_eq_true h3
        exact ⟨okD_no hlt (by unfold fitsB; rw [hf, Bool.true_and]; exact decide_eq_false (by omega)), rfl, rfl, trivial⟩
      · have h3 := of_decide_eq_false h3
        have hf' : fitsB b (j + 1) = true := by
          unfold fitsB
          rw [hf, Bool.true_and]
          exact decide_eq_true ⟨hpj, by omega⟩
        have eA : ari BinOp.add IntKind.i64 (j : Int) 1 = ((j + 1 : Nat) : Int) := by rw [ari_add, i64_nat (show j < 9223372036854775807 by omega)]
        rw [eA]
        refine ⟨⟨by omega, by omega, by omega, by rw [posB]; omega, trivial⟩, ⟨⟨by omega, by omega⟩, by rw [rowP_size]; omega, trivial⟩, ⟨j + 1, rfl, rfl, rfl, rfl, rfl, rfl, by omega, by omega, by omega, hf'⟩, ?_⟩
        repeat' first | exact trivial | exact fH0_ok _ | apply And.intro | exact rfl
    · have hjn : j = numB b := by have := of_decide_eq_false h; omega
      have hok : okD b = mayS (byteAt b 0) 0 (numB b) (leftB b).size (rowP b (numB b)) (celA (leftB b)) := by
        unfold okD
        rw [decide_eq_true h2, ← hjn, hf]
        rfl
      have hL : b.extract (posB b j) b.size = leftB b := by rw [hjn]; rfl
      rw [hL, hjn]
      refine ⟨⟨by omega, by rw [← hjn]; exact hp, trivial⟩, ⟨rowP_strR b (by omega), trivial⟩, fun hm => ⟨?_, rfl, rfl, trivial⟩, fun hm => ⟨?_, ?_⟩⟩
      · rw [hok]
        simpa using hm
      · rw [hok]
        simpa using hm
      · repeat' first | exact trivial | apply And.intro | exact rfl
theorem f_first' : Good EJ.P (fAb b) 0 (headF (fF b (numB b : Int) (posB b 0 : Int) 0)) (fM0 b (byteAt b 0)) := by
  have hn255 : numB b ≤ 255 := (numB_le b).1
  have hp : posB b 0 ≤ b.size := h2
  have hf : fitsB b 0 = true := rfl
  refine past_vc EJ_ok 1000 (f_first b (byteAt b 0) (numB b : Int) (posB b 0 : Int) 0 _ _ _ _ _ (fun _ _ _ _ => False) (fun n' a' i' P' k' rs' => n' = (numB b : Int) ∧ a' = (posB b 1 : Int) ∧ i' = ((1 : Nat) : Int) ∧ P' = byteAt b 0 ∧ k' = 1 ∧ rs' = rowP b 1 ∧ 1 ≤ numB b ∧ fitsB b 1 = true)) ?_ (fun _ _ h => h)
    (fun fs m hb' => fN_good (fun n' a' i' P' k' rs' ⟨e1, e2, e3, e4, e5, e6, q1, q2⟩ => by rw [e1, e2, e3, e4, e5, e6]; exact f_round b hb h2 (numB b + 1) 1 (by omega) (by omega) q1 q2) hb')
  rw [Int.toNat_natCast]
  refine ⟨fun h => ⟨fun h1 => ?_, fun h1 => ?_⟩, fun h => ?_⟩
  · have hlt : 0 < numB b := by have := of_decide_eq_true h; omega
    have h1 := of_decide_eq_true h1
    exact ⟨okD_no hlt (by unfold fitsB; rw [hf, Bool.true_and]; exact decide_eq_false (show ¬ (posB b 0 < b.size ∧ posB b 1 ≤ b.size) from by omega)), rfl, rfl, trivial⟩
  · have hlt : 0 < numB b := by have := of_decide_eq_true h; omega
    have h1 := of_decide_eq_false h1
    have hpj : posB b 0 < b.size := by omega
    obtain ⟨a1, a2⟩ := f_pos b hb h2 hpj
    have a2 : ari BinOp.add IntKind.i64 ((posB b 0 + 1 : Nat) : Int) (ari BinOp.mul IntKind.i64 6 (IntKind.wrap IntKind.i64 (byteAt b (posB b 0)))) = ((posB b 1 : Nat) : Int) := a2
    have hpp : posB b 1 = posB b 0 + 1 + 6 * (byteAt b (posB b 0)).toNat := rfl
    rw [a1, a2, Int.toNat_natCast, Int.toNat_natCast]
    refine ⟨⟨⟨by omega, by omega⟩, trivial⟩, fun h3 => ?_, fun h3 => ?_⟩
    · have h3 := of_decide_eq_true h3
      exact ⟨okD_no hlt (by unfold fitsB; rw [hf, Bool.true_and]; exact decide_eq_false (show ¬ (posB b 0 < b.size ∧ posB b 1 ≤ b.size) from by omega)), rfl, rfl, trivial⟩
    · have h3 := of_decide_eq_false h3
      have hf' : fitsB b 1 = true := by
        unfold fitsB
        rw [hf, Bool.true_and]
        exact decide_eq_true (show posB b 0 < b.size ∧ posB b 1 ≤ b.size from ⟨hpj, by omega⟩)
      have eA : ari BinOp.add IntKind.i64 (0 : Int) 1 = ((1 : Nat) : Int) := by rw [ari_add]; exact i64_nat (k := 0) (by omega)
      rw [eA]
      have hrow : #[Value.string (b.extract (posB b 0 + 1) (posB b 1))] = rowP b 1 := by
        show _ = #[] ++ #[Value.string (prg b 0)]
        rw [Array.empty_append]
        rfl
      refine ⟨⟨by omega, by omega, by omega, by omega, trivial⟩, ⟨rfl, rfl, rfl, rfl, rfl, hrow, by omega, hf'⟩, ?_⟩
      repeat' first | exact trivial | exact fH0_ok _ | apply And.intro | exact rfl
  · have h0 : numB b = 0 := by have := of_decide_eq_false h; omega
    have hno : okD b = false := by
      unfold okD mayS
      rw [decide_eq_false (p := 1 ≤ byteAt b 0 ∧ byteAt b 0 ≤ 64 ∧ 1 ≤ numB b ∧ numB b ≤ 8 ∧ (leftB b).size ≤ 4000) (by omega)]
      simp
    exact ⟨⟨by omega, hp, trivial⟩, hno, rfl, rfl, trivial⟩
theorem f_two : Good Try.prog (fAb b) 0 (fC b) M0 := by
  refine run_vc EJ_ok 1000 (f_start b _ _ _ _ _ (fun n a i P => n = (numB b : Int) ∧ a = (posB b 0 : Int) ∧ i = 0 ∧ P = byteAt b 0)) ?_ (fun _ _ h => h)
    (fun fs m hb' => fN0_good (fun n a i P ⟨e1, e2, e3, e4⟩ => by rw [e1, e2, e3, e4]; exact f_first' b hb h2) hb')
  have r0 := byteAt_range b 0
  have r1 := byteAt_range b 1
  refine ⟨fun h => ?_, fun _ => ⟨⟨⟨by omega, by omega⟩, trivial⟩, ⟨⟨by omega, by omega⟩, trivial⟩, ⟨?_, rfl, rfl, Go.IntWalk.i64_in _ (by omega)⟩, ?_⟩⟩
  · have := of_decide_eq_true h
    omega
  · rw [Go.IntWalk.i64_in _ (by omega)]
    exact (numB_le b).2.symm
  · repeat' first | exact trivial | exact fT0_ok | apply And.intro | exact rfl
end
theorem f_small (b : ByteArray) (h2 : ¬ 2 ≤ b.size) : Good Try.prog (fAb b) 0 (fC b) M0 := by
  have hno : okD b = false := by
    unfold okD
    rw [decide_eq_false h2]
    rfl
  refine run_way EJn_ok 1000 (f_none b _ _ _ _ _) ?_ (fun _ _ h => h) (fun _ _ h => h.elim)
  exact ⟨decide_eq_true (by omega), hno, rfl, rfl, trivial⟩
theorem f_every (b : ByteArray) (hb : b.size < 140737488355328) : Good Try.prog (fAb b) 0 (fC b) M0 := by
  by_cases h2 : 2 ≤ b.size
  · exact f_two b hb h2
  · exact f_small b h2
/-! Same. -/
theorem s2T0_3 : TodoOk (ren 3 [(3, 3), (4, 4)]) s2T0 s2T0 := TodoOk.same (by kernel_rfl)
theorem s2T0_2 : TodoOk (ren 2 [(2, 2), (3, 3)]) s2T0 s2T0 := TodoOk.same (by kernel_rfl)
theorem s2H0_3 : TodoOk (ren 3 [(3, 3), (4, 4)]) s2H0 s2H0 := TodoOk.same (by kernel_rfl)
theorem s2H0_2 : TodoOk (ren 2 [(2, 2), (3, 3)]) s2H0 s2H0 := TodoOk.same (by kernel_rfl)
theorem s2N_good {h w : Bool} {P P' : Int} {n k o n' : Nat} {q : ByteArray} {rs cs bs : Array Value} {ty tz tb : TypeId} {A : SV → SMem → Prop} {Q : Int → Prop} (hg : ∀ i, Q i → Good EV.P A (smb w) (gH EV (smb w) (smC P n (smB w k) P' o n' q) (s2M w rs cs bs ty tz tb) [(5, i64 (.o i))]) (gM EV (smb w) (smC P n (smB w k) P' o n' q) (s2M w rs cs bs ty tz tb) [])) {fs : List SFr} {m : SMem} (hb : s2N h w P n k P' o n' q rs cs bs ty tz tb Q fs m) : Good EV.P A (smb w) fs m := by
  unfold s2N at hb
  split at hb
  · split at hb
    · exact gN_good hb.2 (hg _ hb.1)
    · exact hb.elim
  · exact hb.elim
section
variable (P : Int) (n k o : Nat) (q : ByteArray) (rs cs bs : Array Value) (ty tz tb : TypeId)
theorem s2_round_t (hR : RowEq rs cs o n) : ∀ (K j : Nat), n - j < K → j ≤ n → Good EV.P (boolR true) 3 (gH EV 3 (smC P n (smB true k) P o n q) (s2M true rs cs bs ty tz tb) [(5, i64 (.o j))]) (gM EV 3 (smC P n (smB true k) P o n q) (s2M true rs cs bs ty tz tb) []) := by
  intro K
  induction K with
  | zero => intro j h; omega
  | succ K ih =>
    intro j hk hj
    refine past_vc EV_ok 1000 (s2_step_t P n k P o n q rs cs bs ty tz tb j (fun i' => ∃ t : Nat, i' = t ∧ n - t < K ∧ t ≤ n)) ?_ (fun _ _ h => h)
      (fun fs m hb => s2N_good (w := true) (fun i' ⟨t, e, k1, k2⟩ => by rw [e]; exact ih t k1 k2) hb)
    have hn := hR.1
    rw [Int.toNat_natCast, Nat.mul_one, Nat.zero_add]
    refine ⟨fun h => ?_, fun h => rfl⟩
    have hlt : j < n := by simpa using h
    obtain ⟨i1, i2, i3⟩ := hR.2 j hlt
    refine ⟨⟨⟨by omega, by omega⟩, trivial⟩, ⟨i1, trivial⟩, ⟨⟨by omega, by omega⟩, trivial⟩, ⟨i2, trivial⟩, fun hb => ?_, fun hb => ?_⟩
    · rw [i3] at hb
      simp at hb
    · rw [ari_add, i64_nat (show j < 9223372036854775807 by omega)]
      refine ⟨⟨j + 1, rfl, by omega, by omega⟩, ?_⟩
      repeat' first | exact trivial | exact s2H0_3 | apply And.intro | exact rfl
theorem s2_good_t (hR : RowEq rs cs o n) (hP : PickEq true k bs q) : Good Try.prog (boolR true) 3 (smC P n (smB true k) P o n q) (s2M true rs cs bs ty tz tb) := by
  have hP : k ≤ bs.size ∧ AllU8 (bs.extract 0 k).toList ∧ strOf (bs.extract 0 k).toList = q := hP
  refine run_vc EV_ok 1000 (s2_start_t P n k P o n q rs cs bs ty tz tb (fun i => i = ((0 : Nat) : Int))) ?_ (fun _ _ h => h)
    (fun fs m hb => s2N_good (w := true) (fun i e => by rw [e]; exact s2_round_t P n k o q rs cs bs ty tz tb hR (n + 1) 0 (by omega) (by omega)) hb)
  · skip
    refine ⟨fun _ => ⟨fun _ => ⟨⟨by omega, by rw [Nat.zero_add]; exact hP.2.1, trivial⟩, fun h => ?_, fun _ => ?_⟩, fun h => ?_⟩, fun h => ?_⟩
    · rw [Nat.zero_add, hP.2.2] at h
      simp at h
    · repeat' first | exact trivial | exact s2T0_3 | apply And.intro | exact rfl
    · simp at h
    · simp at h
theorem s2_round_f (hR : RowEq rs cs o n) : ∀ (K j : Nat), n - j < K → j ≤ n → Good EV.P (boolR true) 2 (gH EV 2 (smC P n (smB false k) P o n q) (s2M false rs cs bs ty tz tb) [(5, i64 (.o j))]) (gM EV 2 (smC P n (smB false k) P o n q) (s2M false rs cs bs ty tz tb) []) := by
  intro K
  induction K with
  | zero => intro j h; omega
  | succ K ih =>
    intro j hk hj
    refine past_vc EV_ok 1000 (s2_step_f P n k P o n q rs cs bs ty tz tb j (fun i' => ∃ t : Nat, i' = t ∧ n - t < K ∧ t ≤ n)) ?_ (fun _ _ h => h)
      (fun fs m hb => s2N_good (w := false) (fun i' ⟨t, e, k1, k2⟩ => by rw [e]; exact ih t k1 k2) hb)
    have hn := hR.1
    rw [Int.toNat_natCast, Nat.mul_one, Nat.zero_add]
    refine ⟨fun h => ?_, fun h => rfl⟩
    have hlt : j < n := by simpa using h
    obtain ⟨i1, i2, i3⟩ := hR.2 j hlt
    refine ⟨⟨⟨by omega, by omega⟩, trivial⟩, ⟨i1, trivial⟩, ⟨⟨by omega, by omega⟩, trivial⟩, ⟨i2, trivial⟩, fun hb => ?_, fun hb => ?_⟩
    · rw [i3] at hb
      simp at hb
    · rw [ari_add, i64_nat (show j < 9223372036854775807 by omega)]
      refine ⟨⟨j + 1, rfl, by omega, by omega⟩, ?_⟩
      repeat' first | exact trivial | exact s2H0_2 | apply And.intro | exact rfl
theorem s2_good_f (hR : RowEq rs cs o n) (hP : PickEq false k bs q) : Good Try.prog (boolR true) 2 (smC P n (smB false k) P o n q) (s2M false rs cs bs ty tz tb) := by
  have hP : q.size = 0 := hP
  refine run_vc EV_ok 1000 (s2_start_f P n k P o n q rs cs bs ty tz tb (fun i => i = ((0 : Nat) : Int))) ?_ (fun _ _ h => h)
    (fun fs m hb => s2N_good (w := false) (fun i e => by rw [e]; exact s2_round_f P n k o q rs cs bs ty tz tb hR (n + 1) 0 (by omega) (by omega)) hb)
  · skip
    have e0 := str_empty hP
    refine ⟨fun _ => ⟨fun _ => ⟨fun h => ?_, fun _ => ?_⟩, fun h => ?_⟩, fun h => ?_⟩
    · rw [e0] at h
      exact absurd h (by decide +kernel)
    · repeat' first | exact trivial | exact s2T0_2 | apply And.intro | exact rfl
    · simp at h
    · simp at h
end
end Go.Proofs.Ytapkbgccbmjfaaa
/- Of journal: the sums answer as they are told. No condition. -/
namespace Go.Proofs.Ytapkbgccbmjfaaa
set_option linter.unusedSectionVars false
set_option maxRecDepth 100000
theorem Esu_ok : EnvOk Esu := EnvOk.with E0_ok _ _ (fun _ _ _ _ h => by cases h)
/-- The sum of so many bytes. -/
def sumN (b : ByteArray) : Nat → Nat
  | 0 => 2166136261
  | j + 1 => ((sumN b j ^^^ (byteAt b j).toNat) * 16777619) % 4294967296
theorem sumN_lt (b : ByteArray) : ∀ j, sumN b j < 4294967296
  | 0 => by unfold sumN; decide
  | j + 1 => Nat.mod_lt _ (by decide)
theorem byteAt_nat (b : ByteArray) (j : Nat) : byteAt b j = ((byteAt b j).toNat : Int) ∧ (byteAt b j).toNat < 256 := by
  have := byteAt_range b j
  omega
theorem xor_lt (b : ByteArray) (j : Nat) : sumN b j ^^^ (byteAt b j).toNat < 4294967296 :=
  Nat.xor_lt_two_pow (n := 32) (sumN_lt b j) (Nat.lt_trans (byteAt_nat b j).2 (by decide))
theorem step32 (b : ByteArray) (j : Nat) : ari .mul .u32 (ari .xor .u32 (sumN b j : Int) (IntKind.wrap .u32 (byteAt b j))) 16777619 = (sumN b (j + 1) : Int) := by
  obtain ⟨h1, h2⟩ := byteAt_nat b j
  have hx := xor_lt b j
  have e1 : IntKind.wrap .u32 (byteAt b j) = ((byteAt b j).toNat : Int) := by rw [Go.IntWalk.u32_in _ (by omega)]; exact h1
  have e2 : ari .xor .u32 (sumN b j : Int) ((byteAt b j).toNat : Int) = ((sumN b j ^^^ (byteAt b j).toNat : Nat) : Int) := u32_xor_nat _ _ (sumN_lt b j) (by omega)
  rw [e1, e2, ari_mul, sumN, IntKind.wrap_u32]
  generalize sumN b j ^^^ (byteAt b j).toNat = x at *
  omega
theorem step64 (b : ByteArray) (j : Nat) : ari .rem .u64 (ari .mul .u64 (ari .xor .u64 (sumN b j : Int) (IntKind.wrap .u64 (byteAt b j))) 16777619) 4294967296 = (sumN b (j + 1) : Int) := by
  obtain ⟨h1, h2⟩ := byteAt_nat b j
  have hx := xor_lt b j
  have hs := sumN_lt b j
  have e1 : IntKind.wrap .u64 (byteAt b j) = ((byteAt b j).toNat : Int) := by rw [Go.IntWalk.u64_in _ (by omega)]; exact h1
  have e2 : ari .xor .u64 (sumN b j : Int) ((byteAt b j).toNat : Int) = ((sumN b j ^^^ (byteAt b j).toNat : Nat) : Int) := u64_xor_nat _ _ (by omega) (by omega)
  rw [e1, e2, ari_mul, ari_rem, sumN, Go.IntWalk.u64_in _ (by omega)]
  generalize sumN b j ^^^ (byteAt b j).toNat = x at *
  rw [Int.tmod_eq_emod_of_nonneg (by omega)]
  omega
theorem suT0_ok : TodoOk (ren 0 []) suT0 suT0 := TodoOk.same (by kernel_rfl)
theorem suH0_ok : TodoOk (ren 0 []) suH0 suH0 := TodoOk.same (by kernel_rfl)
theorem rsT0_ok : TodoOk (ren 0 []) rsT0 rsT0 := TodoOk.same (by kernel_rfl)
theorem rsH0_ok : TodoOk (ren 0 []) rsH0 rsH0 := TodoOk.same (by kernel_rfl)
theorem suN_good {h : Bool} {b : ByteArray} {A : SV → SMem → Prop} {Q : Int → Int → Prop} (hg : ∀ i n, Q i n → Good Esu.P A 0 (gH Esu 0 (suC b) M0 [(7, i64 (.o i)), (3, u32S (.o n))]) (gM Esu 0 (suC b) M0 [])) {fs : List SFr} {m : SMem} (hb : suN h b Q fs m) : Good Esu.P A 0 fs m := by
  unfold suN at hb
  split at hb
  · split at hb
    · exact gN_good hb.2 (hg _ _ hb.1)
    · exact hb.elim
  · exact hb.elim
theorem rsN_good {h : Bool} {b : ByteArray} {A : SV → SMem → Prop} {Q : Int → Int → Prop} (hg : ∀ i n, Q i n → Good Esu.P A 0 (gH Esu 0 (rsC b) M0 [(4, i64 (.o i)), (3, u64S (.o n))]) (gM Esu 0 (rsC b) M0 [])) {fs : List SFr} {m : SMem} (hb : rsN h b Q fs m) : Good Esu.P A 0 fs m := by
  unfold rsN at hb
  split at hb
  · split at hb
    · exact gN_good hb.2 (hg _ _ hb.1)
    · exact hb.elim
  · exact hb.elim
section
variable (b : ByteArray) (hb : b.size < 9223372036854775807)
include hb
theorem su_round : ∀ (K j : Nat), b.size - j < K → j ≤ b.size → Good Esu.P (intR .u32 (sumN b b.size : Int)) 0 (gH Esu 0 (suC b) M0 [(7, i64 (.o j)), (3, u32S (.o (sumN b j : Int)))]) (gM Esu 0 (suC b) M0 []) := by
  intro K
  induction K with
  | zero => intro j h; omega
  | succ K ih =>
    intro j hk hj
    refine past_vc Esu_ok 1000 (su_step b _ j (sumN b j : Int) (fun i' n' => ∃ t : Nat, i' = t ∧ n' = (sumN b t : Int) ∧ b.size - t < K ∧ t ≤ b.size)) ?_ (fun _ _ h => h)
      (fun fs m hb => suN_good (fun i' n' ⟨t, e, e2, k1, k2⟩ => by rw [e, e2]; exact ih t k1 k2) hb)
    rw [Int.toNat_natCast, step32, ari_add, i64_nat (show j < 9223372036854775807 by omega)]
    refine ⟨fun h => ?_, fun h => ?_⟩
    · have hlt : j < b.size := by have := of_decide_eq_true h; omega
      refine ⟨⟨⟨by omega, by omega⟩, trivial⟩, ⟨j + 1, rfl, rfl, by omega, by omega⟩, ?_⟩
      repeat' first | exact trivial | exact suH0_ok | apply And.intro | exact rfl
    · have : j = b.size := by have := of_decide_eq_false h; omega
      exact ⟨rfl, by rw [this]⟩
theorem su_good : Good Try.prog (intR .u32 (sumN b b.size : Int)) 0 (suC b) M0 := by
  refine run_vc Esu_ok 1000 (su_start b _ (fun i n => i = ((0 : Nat) : Int) ∧ n = (sumN b 0 : Int))) ?_ (fun _ _ h => h)
    (fun fs m hb' => suN_good (fun i n ⟨e, e2⟩ => by rw [e, e2]; exact su_round b hb (b.size + 1) 0 (by omega) (by omega)) hb')
  refine ⟨⟨rfl, rfl⟩, ?_⟩
  repeat' first | exact trivial | exact suT0_ok | apply And.intro | exact rfl
theorem rs_round : ∀ (K j : Nat), b.size - j < K → j ≤ b.size → Good Esu.P (intR .u32 (sumN b b.size : Int)) 0 (gH Esu 0 (rsC b) M0 [(4, i64 (.o j)), (3, u64S (.o (sumN b j : Int)))]) (gM Esu 0 (rsC b) M0 []) := by
  intro K
  induction K with
  | zero => intro j h; omega
  | succ K ih =>
    intro j hk hj
    refine past_vc Esu_ok 1000 (rs_step b _ j (sumN b j : Int) (fun i' n' => ∃ t : Nat, i' = t ∧ n' = (sumN b t : Int) ∧ b.size - t < K ∧ t ≤ b.size)) ?_ (fun _ _ h => h)
      (fun fs m hb => rsN_good (fun i' n' ⟨t, e, e2, k1, k2⟩ => by rw [e, e2]; exact ih t k1 k2) hb)
    rw [Int.toNat_natCast, step64, ari_add, i64_nat (show j < 9223372036854775807 by omega)]
    refine ⟨fun h => ?_, fun h => ?_⟩
    · have hlt : j < b.size := by have := of_decide_eq_true h; omega
      refine ⟨⟨⟨by omega, by omega⟩, trivial⟩, ⟨j + 1, rfl, rfl, by omega, by omega⟩, ?_⟩
      repeat' first | exact trivial | exact rsH0_ok | apply And.intro | exact rfl
    · have e : j = b.size := by have := of_decide_eq_false h; omega
      refine ⟨rfl, ?_⟩
      rw [e]
      exact Go.IntWalk.u32_in _ (by have := sumN_lt b b.size; omega)
theorem rs_good : Good Try.prog (intR .u32 (sumN b b.size : Int)) 0 (rsC b) M0 := by
  refine run_vc Esu_ok 1000 (rs_start b _ (fun i n => i = ((0 : Nat) : Int) ∧ n = (sumN b 0 : Int))) ?_ (fun _ _ h => h)
    (fun fs m hb' => rsN_good (fun i n ⟨e, e2⟩ => by rw [e, e2]; exact rs_round b hb (b.size + 1) 0 (by omega) (by omega)) hb')
  refine ⟨⟨rfl, rfl⟩, ?_⟩
  repeat' first | exact trivial | exact rsT0_ok | apply And.intro | exact rfl
end
/-! As contracts. -/
def sumT (m : SMem) : SV → Option Tree
  | .s (.c (.f (.opq (.string b)))) => some (needs [b.size < 9223372036854775807] (.ret (u32S (.o (sumN b b.size : Int))) m))
  | _ => none
theorem intR_con {k : IntKind} {r : Int} {s : SV} {m' : SMem} {R R' : Ren} {v : Value} (h : intR k r s m') (hv : s.ok R' v) : (SV.s (.c (.f (.int k (.o r))))).ok R v := by
  unfold intR at h
  split at h
  · rename_i k' x
    obtain ⟨rfl, h⟩ := h
    have hv : v = .int k' x.den := hv
    rw [hv, h]
    rfl
  · exact h.elim
theorem fn12s : E0.fn 12 = some Try.f12 := by kernel_rfl
theorem body12s : Try.f12.body = some (Try.f12.body.getD .skip) := by kernel_rfl
theorem fn13s : E0.fn 13 = some Try.f13 := by kernel_rfl
theorem body13s : Try.f13.body = some (Try.f13.body.getD .skip) := by kernel_rfl
theorem sumT_ok {m : SMem} {x : SV} {t : Tree} (h : sumT m x = some t) : Con E0 12 [x] m t ∧ Con E0 13 [x] m t := by
  unfold sumT at h
  split at h
  · rename_i b
    cases h
    refine ⟨?_, ?_⟩
    · exact Con.ro E0_ok (l := [strV' b]) (l' := [strV' b]) (ms := M0) (m := m) (q := _) (A := intR .u32 (sumN b b.size : Int)) fn12s body12s rfl (fun i => i) (fun i b hb => by
        have hb : (Tr.nil : Tr SBlk).get i = some b := hb
        rw [Tr.get_nil] at hb; cases hb) (fun R vs ha => strV_ok ha) (fun hq => su_good b (hq _ (by simp))) (fun _ _ _ _ _ => intR_con)
    · exact Con.ro E0_ok (l := [strV' b]) (l' := [strV' b]) (ms := M0) (m := m) (q := _) (A := intR .u32 (sumN b b.size : Int)) fn13s body13s rfl (fun i => i) (fun i b hb => by
        have hb : (Tr.nil : Tr SBlk).get i = some b := hb
        rw [Tr.get_nil] at hb; cases hb) (fun R vs ha => strV_ok ha) (fun hq => rs_good b (hq _ (by simp))) (fun _ _ _ _ _ => intR_con)
  · cases h
end Go.Proofs.Ytapkbgccbmjfaaa
/- Of journal: bytes and behind them their sum: states. No condition. -/
namespace Go.Proofs.Ytapkbgccbmjfaaa
noncomputable section
/-- Bytes of a number, the lower ones first. -/
def fourB (k : Int) : ByteArray := strOf [.int .u8 (IntKind.wrap .u8 k), .int .u8 (IntKind.wrap .u8 (ari .shr .u32 k 8)), .int .u8 (IntKind.wrap .u8 (ari .shr .u32 k 16)), .int .u8 (IntKind.wrap .u8 (ari .shr .u32 k 24))]
def smA (a b : ByteArray) : ByteArray := b ++ fourB (sumN (a ++ b) (a ++ b).size : Int)
/-- A string that is known, or told. -/
def strX : SV → Option ByteArray
  | .s (.c (.f (.opq (.string s)))) => some s
  | .s (.c (.f (.lit (.string s)))) => some s
  | _ => none
def conU (g : FuncId) (l : List SV) (m : SMem) : Option Tree := match g, l with
  | 12, [x] => sumT m x
  | 13, [x] => sumT m x
  | _, _ => none
def EU : Env := ⟨Try.prog, fnOf, conU, fun _ _ _ => false⟩
def smC' (a b : ByteArray) : List SFr := [callFr 25 Try.f25.ntmps [strV' a, strV' b] (Try.f25.body.getD .skip)]
def foC (k : Int) : List SFr := [callFr 28 Try.f28.ntmps [u32S (.o k)] (Try.f28.body.getD .skip)]
def smT (m : SMem) (x y : SV) : Option Tree := match strX x, strX y with
  | some a, some b => some (needs [a.size + b.size ≤ 1000000] (.ret (strV' (smA a b)) m))
  | _, _ => none
def foT (m : SMem) : SV → Option Tree
  | .s (.c (.f (.int .u32 (.o k)))) => some (.ret (strV' (fourB k)) m)
  | _ => none
end
end Go.Proofs.Ytapkbgccbmjfaaa
/- Of journal: bytes with their sum, as propositions. No condition. -/
namespace Go.Proofs.Ytapkbgccbmjfaaa
set_option maxRecDepth 100000
theorem sm_run (a b e : ByteArray) : (run EU 1000 0 (smC' a b) M0).vc (strQ e) (fun _ _ => False) =
    (((↑(ByteArray.size a + ByteArray.size b) : Int) ≤ (9223372036854775807 : Int) ∧ True) ∧ (ByteArray.size (a ++ b) < (9223372036854775807 : Nat) ∧ True) ∧ ((↑(ByteArray.size b + ByteArray.size (strOf [Value.int IntKind.u8 (IntKind.wrap IntKind.u8 (↑(sumN (a ++ b) (ByteArray.size (a ++ b))) : Int)), Value.int IntKind.u8 (IntKind.wrap IntKind.u8 (ari BinOp.shr IntKind.u32 (↑(sumN (a ++ b) (ByteArray.size (a ++ b))) : Int) (8 : Int))), Value.int IntKind.u8 (IntKind.wrap IntKind.u8 (ari BinOp.shr IntKind.u32 (↑(sumN (a ++ b) (ByteArray.size (a ++ b))) : Int) (16 : Int))), Value.int IntKind.u8 (IntKind.wrap IntKind.u8 (ari BinOp.shr IntKind.u32 (↑(sumN (a ++ b) (ByteArray.size (a ++ b))) : Int) (24 : Int)))])) : Int) ≤ (9223372036854775807 : Int) ∧ True) ∧ b ++ strOf [Value.int IntKind.u8 (IntKind.wrap IntKind.u8 (↑(sumN (a ++ b) (ByteArray.size (a ++ b))) : Int)), Value.int IntKind.u8 (IntKind.wrap IntKind.u8 (ari BinOp.shr IntKind.u32 (↑(sumN (a ++ b) (ByteArray.size (a ++ b))) : Int) (8 : Int))), Value.int IntKind.u8 (IntKind.wrap IntKind.u8 (ari BinOp.shr IntKind.u32 (↑(sumN (a ++ b) (ByteArray.size (a ++ b))) : Int) (16 : Int))), Value.int IntKind.u8 (IntKind.wrap IntKind.u8 (ari BinOp.shr IntKind.u32 (↑(sumN (a ++ b) (ByteArray.size (a ++ b))) : Int) (24 : Int)))] = e) := by kernel_rfl
theorem fo_run (k : Int) (e : ByteArray) : (run EU 1000 0 (foC k) M0).vc (strQ e) (fun _ _ => False) =
    (strOf [Value.int IntKind.u8 (IntKind.wrap IntKind.u8 k), Value.int IntKind.u8 (IntKind.wrap IntKind.u8 (ari BinOp.shr IntKind.u32 k (8 : Int))), Value.int IntKind.u8 (IntKind.wrap IntKind.u8 (ari BinOp.shr IntKind.u32 k (16 : Int))), Value.int IntKind.u8 (IntKind.wrap IntKind.u8 (ari BinOp.shr IntKind.u32 k (24 : Int)))] = e) := by kernel_rfl
end Go.Proofs.Ytapkbgccbmjfaaa
/- Of journal: contracts of sums, and of scripts without picks; JournalBegins' states. No condition. -/
namespace Go.Proofs.Ytapkbgccbmjfaaa
set_option linter.unusedSectionVars false
set_option maxRecDepth 100000
theorem strX_ok {x : SV} {a : ByteArray} (h : strX x = some a) {R R' : Ren} {v : Value} (hv : x.ok R v) : (strV' a).ok R' v := by
  unfold strX at h
  split at h
  · cases h; exact ⟨hv.1, hv.2⟩
  · cases h; exact ⟨hv.1, rfl⟩
  · cases h
theorem strQ_con {e : ByteArray} {s : SV} {m' : SMem} {R R' : Ren} {v : Value} (h : strQ e s m') (hv : s.ok R' v) : (strV' e).ok R v := by
  unfold strQ at h
  split at h
  · rename_i s'
    have h : s' = e := h
    rw [← h]
    exact ⟨hv.1, hv.2⟩
  · exact h.elim
theorem no_blocks {P : Nat → SBlk → Prop} : ∀ i b, getB M0.bl i = some b → P i b := fun i b hb => by
  have hb : (Tr.nil : Tr SBlk).get i = some b := hb
  rw [Tr.get_nil] at hb; cases hb
theorem conU_ok (g : FuncId) (l : List SV) (m : SMem) (t : Tree) (h : conU g l m = some t) : Con E0 g l m t := by
  unfold conU at h
  split at h
  · exact (sumT_ok h).1
  · exact (sumT_ok h).2
  · cases h
theorem EU_ok : EnvOk EU := EnvOk.with E0_ok _ _ conU_ok
theorem fn25s : E0.fn 25 = some Try.f25 := by kernel_rfl
theorem body25s : Try.f25.body = some (Try.f25.body.getD .skip) := by kernel_rfl
theorem fn28s : E0.fn 28 = some Try.f28 := by kernel_rfl
theorem body28s : Try.f28.body = some (Try.f28.body.getD .skip) := by kernel_rfl
theorem fourB_size (k : Int) : (fourB k).size = 4 := strOf_size _
theorem sm_good (a b : ByteArray) (h : a.size + b.size ≤ 1000000) : Good Try.prog (strQ (smA a b)) 0 (smC' a b) M0 := by
  refine run_vc EU_ok 1000 (sm_run a b _) ?_ (fun _ _ h => h) (fun _ _ h => h.elim)
  have h4 : ∀ x y z w, (strOf [Value.int .u8 x, Value.int .u8 y, Value.int .u8 z, Value.int .u8 w]).size = 4 := fun _ _ _ _ => strOf_size _
  rw [h4, ByteArray.size_append]
  exact ⟨⟨by omega, trivial⟩, ⟨by omega, trivial⟩, ⟨by omega, trivial⟩, by unfold smA fourB; rw [ByteArray.size_append]⟩
theorem fo_good (k : Int) : Good Try.prog (strQ (fourB k)) 0 (foC k) M0 := run_vc EU_ok 1000 (fo_run k _) rfl (fun _ _ h => h) (fun _ _ h => h.elim)
theorem smT_ok {m : SMem} {x y : SV} {t : Tree} (h : smT m x y = some t) : Con E0 25 [x, y] m t := by
  unfold smT at h
  split at h
  · rename_i a b ha hb
    cases h
    refine Con.ro E0_ok (l' := [strV' a, strV' b]) (ms := M0) (A := strQ (smA a b)) fn25s body25s rfl (fun i => i) no_blocks (fun R vs hv => ?_) (fun hq => sm_good a b (hq _ (by simp))) (fun _ _ _ _ _ => strQ_con)
    match vs, hv with
    | [u, w], hv => exact ⟨strX_ok ha hv.1, strX_ok hb hv.2.1, trivial⟩
  · cases h
theorem foT_ok {m : SMem} {x : SV} {t : Tree} (h : foT m x = some t) : Con E0 28 [x] m t := by
  unfold foT at h
  split at h
  · rename_i k
    cases h
    refine Con.ro E0_ok (q := []) (l' := [u32S (.o k)]) (ms := M0) (A := strQ (fourB k)) fn28s body28s rfl (fun i => i) no_blocks (fun R vs hv => ?_) (fun _ => fo_good k) (fun _ _ _ _ _ => strQ_con)
    match vs, hv with
    | [u], hv => exact ⟨hv.1, trivial⟩
  · cases h
/-! Scripts without picks. -/
section
noncomputable section
def encN (m : SMem) : SV → Option Tree
  | .s (.agg (.ls [.f (.int .i64 (.o P)), .f (.slice i o n _), .f (.lit (.slice none 0 0))])) => match rowV m i with
    | some (_, cs) => some (needs [StrOk cs o.den n.den] (.br (mayS P o.den n.den 0 cs #[]) (.ret (encV (encS P o.den n.den 0 cs #[])) m) (.ret nil3S m)))
    | none => none
  | _ => none
def mayE (m : SMem) : SV → Option Tree
  | .s (.agg (.ls [.f (.int .i64 (.o P)), .f (.slice i o n _), .f (.lit (.string ⟨⟨[]⟩⟩))])) => match rowV m i with
    | some (_, cs) => some (needs [StrR cs o.den n.den] (.ret (sB (.o (mayS P o.den n.den 0 cs #[]))) m))
    | none => none
  | .s (.agg (.ls [.f (.int .i64 (.o _)), .f .e0, .f (.lit (.string ⟨⟨[]⟩⟩))])) => some (.ret (sB (.l false)) m)
  | x => m9T m x
def bytE (m : SMem) : SV → Option Tree
  | .s (.agg (.ls [.f (.int .i64 (.o P)), .f (.slice i o n _), .f (.lit (.string ⟨⟨[]⟩⟩))])) => match rowV m i with
    | some (true, cs) => some (needs [StrOk cs o.den n.den, mayS P o.den n.den 0 cs #[] = true] (.ret (strV' (encS P o.den n.den 0 cs #[])) m))
    | _ => none
  | _ => none
def conB (g : FuncId) (l : List SV) (m : SMem) : Option Tree := match g, l with
  | 9, [] => some (needs [] (.ret (sB (.l true)) m))
  | 12, [x] => sumT m x
  | 13, [x] => sumT m x
  | 14, [x] => mayE m x
  | 23, [x] => greatT m x
  | 24, [x] => encN m x
  | 25, [x, y] => smT m x y
  | 27, [x] => bytE m x
  | 28, [x] => foT m x
  | _, _ => none
def EB : Env := ⟨Try.prog, fnOf, conB, fun _ _ _ => false⟩
def jbC (P : Int) (A : SC) (q b : ByteArray) : List SFr := [callFr 3 Try.f3.ntmps [refV P A q, strV' b] (Try.f3.body.getD .skip)]
end
end
end Go.Proofs.Ytapkbgccbmjfaaa
/- Of journal: JournalBegins' runs, as propositions. No condition. -/
namespace Go.Proofs.Ytapkbgccbmjfaaa
set_option maxRecDepth 100000
theorem jb_row (P : Int) (o n : Nat) (q b : ByteArray) (cs : Array Value) (ty : TypeId) : (run EB 1000 1 (jbC P (slC 0 o n) q b) (prM true cs ty)).vc (boolR true) (fun _ _ => False) =
    ((StrI cs o n ∧ True) ∧ ((greatV n q cs o == false) = true → (decide (((((ByteArray.size b) : Nat) : Int)) > (6000 : Int)) = true → true = true) ∧ (decide (((((ByteArray.size b) : Nat) : Int)) > (6000 : Int)) = false → (StrOk cs o n ∧ True) ∧ (mayS P o n (0 : Nat) cs #[] = true → ((↑((4 : Nat) + ByteArray.size (strOf [Value.int IntKind.u8 (IntKind.wrap IntKind.u8 (((ByteArray.size (encS P o n (0 : Nat) cs #[])) : Nat) : Int)), Value.int IntKind.u8 (IntKind.wrap IntKind.u8 (ari BinOp.shr IntKind.i64 ((((ByteArray.size (encS P o n (0 : Nat) cs #[])) : Nat) : Int)) (8 : Int)))])) : Int) ≤ (9223372036854775807 : Int) ∧ True) ∧ ((↑(ByteArray.size (ByteArray.mk #[(66 : UInt8), (76 : UInt8), (87 : UInt8), (75 : UInt8)] ++ strOf [Value.int IntKind.u8 (IntKind.wrap IntKind.u8 (((ByteArray.size (encS P o n (0 : Nat) cs #[])) : Nat) : Int)), Value.int IntKind.u8 (IntKind.wrap IntKind.u8 (ari BinOp.shr IntKind.i64 ((((ByteArray.size (encS P o n (0 : Nat) cs #[])) : Nat) : Int)) (8 : Int)))]) + ByteArray.size (encS P o n (0 : Nat) cs #[])) : Int) ≤ (9223372036854775807 : Int) ∧ True) ∧ ((0 : Nat) + ByteArray.size (ByteArray.mk #[(66 : UInt8), (76 : UInt8), (87 : UInt8), (75 : UInt8)] ++ strOf [Value.int IntKind.u8 (IntKind.wrap IntKind.u8 (((ByteArray.size (encS P o n (0 : Nat) cs #[])) : Nat) : Int)), Value.int IntKind.u8 (IntKind.wrap IntKind.u8 (ari BinOp.shr IntKind.i64 ((((ByteArray.size (encS P o n (0 : Nat) cs #[])) : Nat) : Int)) (8 : Int)))] ++ encS P o n (0 : Nat) cs #[]) ≤ (1000000 : Nat) ∧ True) ∧ (ByteArray.size b < (9223372036854775807 : Nat) ∧ True) ∧ (ByteArray.size b < (9223372036854775807 : Nat) ∧ True) ∧ (((↑(sumN b (ByteArray.size b)) : Int) != (↑(sumN b (ByteArray.size b)) : Int)) = true → false = true) ∧ (((↑(sumN b (ByteArray.size b)) : Int) != (↑(sumN b (ByteArray.size b)) : Int)) = false → (StrR cs o n ∧ True) ∧ ((!mayS P o n (0 : Nat) cs #[]) = true → (((match mkSB (false && true) (ByteArray.toList (smA (ByteArray.mk #[]) (ByteArray.mk #[(66 : UInt8), (76 : UInt8), (87 : UInt8), (75 : UInt8)] ++ strOf [Value.int IntKind.u8 (IntKind.wrap IntKind.u8 (((ByteArray.size (encS P o n (0 : Nat) cs #[])) : Nat) : Int)), Value.int IntKind.u8 (IntKind.wrap IntKind.u8 (ari BinOp.shr IntKind.i64 ((((ByteArray.size (encS P o n (0 : Nat) cs #[])) : Nat) : Int)) (8 : Int)))] ++ encS P o n (0 : Nat) cs #[])) == ByteArray.toList (ByteArray.mk #[])) with | SB.l b => b | SB.o b => b) == true) = true → false = true) ∧ (((match mkSB (false && true) (ByteArray.toList (smA (ByteArray.mk #[]) (ByteArray.mk #[(66 : UInt8), (76 : UInt8), (87 : UInt8), (75 : UInt8)] ++ strOf [Value.int IntKind.u8 (IntKind.wrap IntKind.u8 (((ByteArray.size (encS P o n (0 : Nat) cs #[])) : Nat) : Int)), Value.int IntKind.u8 (IntKind.wrap IntKind.u8 (ari BinOp.shr IntKind.i64 ((((ByteArray.size (encS P o n (0 : Nat) cs #[])) : Nat) : Int)) (8 : Int)))] ++ encS P o n (0 : Nat) cs #[])) == ByteArray.toList (ByteArray.mk #[])) with | SB.l b => b | SB.o b => b) == true) = false → false = true)) ∧ ((!mayS P o n (0 : Nat) cs #[]) = false → (StrOk cs o n ∧ mayS P o n (0 : Nat) cs #[] = true ∧ True) ∧ ((↑((4 : Nat) + ByteArray.size (strOf [Value.int IntKind.u8 (IntKind.wrap IntKind.u8 (ari BinOp.rem IntKind.i64 ((((ByteArray.size (encS P o n (0 : Nat) cs #[])) : Nat) : Int)) (256 : Int))), Value.int IntKind.u8 (IntKind.wrap IntKind.u8 (ari BinOp.quo IntKind.i64 ((((ByteArray.size (encS P o n (0 : Nat) cs #[])) : Nat) : Int)) (256 : Int)))])) : Int) ≤ (9223372036854775807 : Int) ∧ True) ∧ ((↑(ByteArray.size (ByteArray.mk #[(66 : UInt8), (76 : UInt8), (87 : UInt8), (75 : UInt8)] ++ strOf [Value.int IntKind.u8 (IntKind.wrap IntKind.u8 (ari BinOp.rem IntKind.i64 ((((ByteArray.size (encS P o n (0 : Nat) cs #[])) : Nat) : Int)) (256 : Int))), Value.int IntKind.u8 (IntKind.wrap IntKind.u8 (ari BinOp.quo IntKind.i64 ((((ByteArray.size (encS P o n (0 : Nat) cs #[])) : Nat) : Int)) (256 : Int)))]) + ByteArray.size (encS P o n (0 : Nat) cs #[])) : Int) ≤ (9223372036854775807 : Int) ∧ True) ∧ (ByteArray.size (ByteArray.mk #[(66 : UInt8), (76 : UInt8), (87 : UInt8), (75 : UInt8)] ++ strOf [Value.int IntKind.u8 (IntKind.wrap IntKind.u8 (ari BinOp.rem IntKind.i64 ((((ByteArray.size (encS P o n (0 : Nat) cs #[])) : Nat) : Int)) (256 : Int))), Value.int IntKind.u8 (IntKind.wrap IntKind.u8 (ari BinOp.quo IntKind.i64 ((((ByteArray.size (encS P o n (0 : Nat) cs #[])) : Nat) : Int)) (256 : Int)))] ++ encS P o n (0 : Nat) cs #[]) < (9223372036854775807 : Nat) ∧ True) ∧ ((↑(ByteArray.size (ByteArray.mk #[(66 : UInt8), (76 : UInt8), (87 : UInt8), (75 : UInt8)] ++ strOf [Value.int IntKind.u8 (IntKind.wrap IntKind.u8 (ari BinOp.rem IntKind.i64 ((((ByteArray.size (encS P o n (0 : Nat) cs #[])) : Nat) : Int)) (256 : Int))), Value.int IntKind.u8 (IntKind.wrap IntKind.u8 (ari BinOp.quo IntKind.i64 ((((ByteArray.size (encS P o n (0 : Nat) cs #[])) : Nat) : Int)) (256 : Int)))] ++ encS P o n (0 : Nat) cs #[]) + ByteArray.size (fourB (↑(sumN (ByteArray.mk #[(66 : UInt8), (76 : UInt8), (87 : UInt8), (75 : UInt8)] ++ strOf [Value.int IntKind.u8 (IntKind.wrap IntKind.u8 (ari BinOp.rem IntKind.i64 ((((ByteArray.size (encS P o n (0 : Nat) cs #[])) : Nat) : Int)) (256 : Int))), Value.int IntKind.u8 (IntKind.wrap IntKind.u8 (ari BinOp.quo IntKind.i64 ((((ByteArray.size (encS P o n (0 : Nat) cs #[])) : Nat) : Int)) (256 : Int)))] ++ encS P o n (0 : Nat) cs #[]) (ByteArray.size (ByteArray.mk #[(66 : UInt8), (76 : UInt8), (87 : UInt8), (75 : UInt8)] ++ strOf [Value.int IntKind.u8 (IntKind.wrap IntKind.u8 (ari BinOp.rem IntKind.i64 ((((ByteArray.size (encS P o n (0 : Nat) cs #[])) : Nat) : Int)) (256 : Int))), Value.int IntKind.u8 (IntKind.wrap IntKind.u8 (ari BinOp.quo IntKind.i64 ((((ByteArray.size (encS P o n (0 : Nat) cs #[])) : Nat) : Int)) (256 : Int)))] ++ encS P o n (0 : Nat) cs #[]))) : Int))) : Int) ≤ (9223372036854775807 : Int) ∧ True) ∧ (((match mkSB (false && false) (ByteArray.toList (smA (ByteArray.mk #[]) (ByteArray.mk #[(66 : UInt8), (76 : UInt8), (87 : UInt8), (75 : UInt8)] ++ strOf [Value.int IntKind.u8 (IntKind.wrap IntKind.u8 (((ByteArray.size (encS P o n (0 : Nat) cs #[])) : Nat) : Int)), Value.int IntKind.u8 (IntKind.wrap IntKind.u8 (ari BinOp.shr IntKind.i64 ((((ByteArray.size (encS P o n (0 : Nat) cs #[])) : Nat) : Int)) (8 : Int)))] ++ encS P o n (0 : Nat) cs #[])) == ByteArray.toList (ByteArray.mk #[(66 : UInt8), (76 : UInt8), (87 : UInt8), (75 : UInt8)] ++ strOf [Value.int IntKind.u8 (IntKind.wrap IntKind.u8 (ari BinOp.rem IntKind.i64 ((((ByteArray.size (encS P o n (0 : Nat) cs #[])) : Nat) : Int)) (256 : Int))), Value.int IntKind.u8 (IntKind.wrap IntKind.u8 (ari BinOp.quo IntKind.i64 ((((ByteArray.size (encS P o n (0 : Nat) cs #[])) : Nat) : Int)) (256 : Int)))] ++ encS P o n (0 : Nat) cs #[] ++ fourB (↑(sumN (ByteArray.mk #[(66 : UInt8), (76 : UInt8), (87 : UInt8), (75 : UInt8)] ++ strOf [Value.int IntKind.u8 (IntKind.wrap IntKind.u8 (ari BinOp.rem IntKind.i64 ((((ByteArray.size (encS P o n (0 : Nat) cs #[])) : Nat) : Int)) (256 : Int))), Value.int IntKind.u8 (IntKind.wrap IntKind.u8 (ari BinOp.quo IntKind.i64 ((((ByteArray.size (encS P o n (0 : Nat) cs #[])) : Nat) : Int)) (256 : Int)))] ++ encS P o n (0 : Nat) cs #[]) (ByteArray.size (ByteArray.mk #[(66 : UInt8), (76 : UInt8), (87 : UInt8), (75 : UInt8)] ++ strOf [Value.int IntKind.u8 (IntKind.wrap IntKind.u8 (ari BinOp.rem IntKind.i64 ((((ByteArray.size (encS P o n (0 : Nat) cs #[])) : Nat) : Int)) (256 : Int))), Value.int IntKind.u8 (IntKind.wrap IntKind.u8 (ari BinOp.quo IntKind.i64 ((((ByteArray.size (encS P o n (0 : Nat) cs #[])) : Nat) : Int)) (256 : Int)))] ++ encS P o n (0 : Nat) cs #[]))) : Int))) with | SB.l b => b | SB.o b => b) == true) = true → true = true) ∧ (((match mkSB (false && false) (ByteArray.toList (smA (ByteArray.mk #[]) (ByteArray.mk #[(66 : UInt8), (76 : UInt8), (87 : UInt8), (75 : UInt8)] ++ strOf [Value.int IntKind.u8 (IntKind.wrap IntKind.u8 (((ByteArray.size (encS P o n (0 : Nat) cs #[])) : Nat) : Int)), Value.int IntKind.u8 (IntKind.wrap IntKind.u8 (ari BinOp.shr IntKind.i64 ((((ByteArray.size (encS P o n (0 : Nat) cs #[])) : Nat) : Int)) (8 : Int)))] ++ encS P o n (0 : Nat) cs #[])) == ByteArray.toList (ByteArray.mk #[(66 : UInt8), (76 : UInt8), (87 : UInt8), (75 : UInt8)] ++ strOf [Value.int IntKind.u8 (IntKind.wrap IntKind.u8 (ari BinOp.rem IntKind.i64 ((((ByteArray.size (encS P o n (0 : Nat) cs #[])) : Nat) : Int)) (256 : Int))), Value.int IntKind.u8 (IntKind.wrap IntKind.u8 (ari BinOp.quo IntKind.i64 ((((ByteArray.size (encS P o n (0 : Nat) cs #[])) : Nat) : Int)) (256 : Int)))] ++ encS P o n (0 : Nat) cs #[] ++ fourB (↑(sumN (ByteArray.mk #[(66 : UInt8), (76 : UInt8), (87 : UInt8), (75 : UInt8)] ++ strOf [Value.int IntKind.u8 (IntKind.wrap IntKind.u8 (ari BinOp.rem IntKind.i64 ((((ByteArray.size (encS P o n (0 : Nat) cs #[])) : Nat) : Int)) (256 : Int))), Value.int IntKind.u8 (IntKind.wrap IntKind.u8 (ari BinOp.quo IntKind.i64 ((((ByteArray.size (encS P o n (0 : Nat) cs #[])) : Nat) : Int)) (256 : Int)))] ++ encS P o n (0 : Nat) cs #[]) (ByteArray.size (ByteArray.mk #[(66 : UInt8), (76 : UInt8), (87 : UInt8), (75 : UInt8)] ++ strOf [Value.int IntKind.u8 (IntKind.wrap IntKind.u8 (ari BinOp.rem IntKind.i64 ((((ByteArray.size (encS P o n (0 : Nat) cs #[])) : Nat) : Int)) (256 : Int))), Value.int IntKind.u8 (IntKind.wrap IntKind.u8 (ari BinOp.quo IntKind.i64 ((((ByteArray.size (encS P o n (0 : Nat) cs #[])) : Nat) : Int)) (256 : Int)))] ++ encS P o n (0 : Nat) cs #[]))) : Int))) with | SB.l b => b | SB.o b => b) == true) = false → false = true)))) ∧ (mayS P o n (0 : Nat) cs #[] = false → (ByteArray.size b < (9223372036854775807 : Nat) ∧ True) ∧ (ByteArray.size b < (9223372036854775807 : Nat) ∧ True) ∧ (((↑(sumN b (ByteArray.size b)) : Int) != (↑(sumN b (ByteArray.size b)) : Int)) = true → false = true) ∧ (((↑(sumN b (ByteArray.size b)) : Int) != (↑(sumN b (ByteArray.size b)) : Int)) = false → (StrR cs o n ∧ True) ∧ ((!mayS P o n (0 : Nat) cs #[]) = true → true = true) ∧ ((!mayS P o n (0 : Nat) cs #[]) = false → (StrOk cs o n ∧ mayS P o n (0 : Nat) cs #[] = true ∧ True) ∧ ((↑((4 : Nat) + ByteArray.size (strOf [Value.int IntKind.u8 (IntKind.wrap IntKind.u8 (ari BinOp.rem IntKind.i64 ((((ByteArray.size (encS P o n (0 : Nat) cs #[])) : Nat) : Int)) (256 : Int))), Value.int IntKind.u8 (IntKind.wrap IntKind.u8 (ari BinOp.quo IntKind.i64 ((((ByteArray.size (encS P o n (0 : Nat) cs #[])) : Nat) : Int)) (256 : Int)))])) : Int) ≤ (9223372036854775807 : Int) ∧ True) ∧ ((↑(ByteArray.size (ByteArray.mk #[(66 : UInt8), (76 : UInt8), (87 : UInt8), (75 : UInt8)] ++ strOf [Value.int IntKind.u8 (IntKind.wrap IntKind.u8 (ari BinOp.rem IntKind.i64 ((((ByteArray.size (encS P o n (0 : Nat) cs #[])) : Nat) : Int)) (256 : Int))), Value.int IntKind.u8 (IntKind.wrap IntKind.u8 (ari BinOp.quo IntKind.i64 ((((ByteArray.size (encS P o n (0 : Nat) cs #[])) : Nat) : Int)) (256 : Int)))]) + ByteArray.size (encS P o n (0 : Nat) cs #[])) : Int) ≤ (9223372036854775807 : Int) ∧ True) ∧ (ByteArray.size (ByteArray.mk #[(66 : UInt8), (76 : UInt8), (87 : UInt8), (75 : UInt8)] ++ strOf [Value.int IntKind.u8 (IntKind.wrap IntKind.u8 (ari BinOp.rem IntKind.i64 ((((ByteArray.size (encS P o n (0 : Nat) cs #[])) : Nat) : Int)) (256 : Int))), Value.int IntKind.u8 (IntKind.wrap IntKind.u8 (ari BinOp.quo IntKind.i64 ((((ByteArray.size (encS P o n (0 : Nat) cs #[])) : Nat) : Int)) (256 : Int)))] ++ encS P o n (0 : Nat) cs #[]) < (9223372036854775807 : Nat) ∧ True) ∧ ((↑(ByteArray.size (ByteArray.mk #[(66 : UInt8), (76 : UInt8), (87 : UInt8), (75 : UInt8)] ++ strOf [Value.int IntKind.u8 (IntKind.wrap IntKind.u8 (ari BinOp.rem IntKind.i64 ((((ByteArray.size (encS P o n (0 : Nat) cs #[])) : Nat) : Int)) (256 : Int))), Value.int IntKind.u8 (IntKind.wrap IntKind.u8 (ari BinOp.quo IntKind.i64 ((((ByteArray.size (encS P o n (0 : Nat) cs #[])) : Nat) : Int)) (256 : Int)))] ++ encS P o n (0 : Nat) cs #[]) + ByteArray.size (fourB (↑(sumN (ByteArray.mk #[(66 : UInt8), (76 : UInt8), (87 : UInt8), (75 : UInt8)] ++ strOf [Value.int IntKind.u8 (IntKind.wrap IntKind.u8 (ari BinOp.rem IntKind.i64 ((((ByteArray.size (encS P o n (0 : Nat) cs #[])) : Nat) : Int)) (256 : Int))), Value.int IntKind.u8 (IntKind.wrap IntKind.u8 (ari BinOp.quo IntKind.i64 ((((ByteArray.size (encS P o n (0 : Nat) cs #[])) : Nat) : Int)) (256 : Int)))] ++ encS P o n (0 : Nat) cs #[]) (ByteArray.size (ByteArray.mk #[(66 : UInt8), (76 : UInt8), (87 : UInt8), (75 : UInt8)] ++ strOf [Value.int IntKind.u8 (IntKind.wrap IntKind.u8 (ari BinOp.rem IntKind.i64 ((((ByteArray.size (encS P o n (0 : Nat) cs #[])) : Nat) : Int)) (256 : Int))), Value.int IntKind.u8 (IntKind.wrap IntKind.u8 (ari BinOp.quo IntKind.i64 ((((ByteArray.size (encS P o n (0 : Nat) cs #[])) : Nat) : Int)) (256 : Int)))] ++ encS P o n (0 : Nat) cs #[]))) : Int))) : Int) ≤ (9223372036854775807 : Int) ∧ True) ∧ (((match mkSB (true && false) (ByteArray.toList (ByteArray.mk #[]) == ByteArray.toList (ByteArray.mk #[(66 : UInt8), (76 : UInt8), (87 : UInt8), (75 : UInt8)] ++ strOf [Value.int IntKind.u8 (IntKind.wrap IntKind.u8 (ari BinOp.rem IntKind.i64 ((((ByteArray.size (encS P o n (0 : Nat) cs #[])) : Nat) : Int)) (256 : Int))), Value.int IntKind.u8 (IntKind.wrap IntKind.u8 (ari BinOp.quo IntKind.i64 ((((ByteArray.size (encS P o n (0 : Nat) cs #[])) : Nat) : Int)) (256 : Int)))] ++ encS P o n (0 : Nat) cs #[] ++ fourB (↑(sumN (ByteArray.mk #[(66 : UInt8), (76 : UInt8), (87 : UInt8), (75 : UInt8)] ++ strOf [Value.int IntKind.u8 (IntKind.wrap IntKind.u8 (ari BinOp.rem IntKind.i64 ((((ByteArray.size (encS P o n (0 : Nat) cs #[])) : Nat) : Int)) (256 : Int))), Value.int IntKind.u8 (IntKind.wrap IntKind.u8 (ari BinOp.quo IntKind.i64 ((((ByteArray.size (encS P o n (0 : Nat) cs #[])) : Nat) : Int)) (256 : Int)))] ++ encS P o n (0 : Nat) cs #[]) (ByteArray.size (ByteArray.mk #[(66 : UInt8), (76 : UInt8), (87 : UInt8), (75 : UInt8)] ++ strOf [Value.int IntKind.u8 (IntKind.wrap IntKind.u8 (ari BinOp.rem IntKind.i64 ((((ByteArray.size (encS P o n (0 : Nat) cs #[])) : Nat) : Int)) (256 : Int))), Value.int IntKind.u8 (IntKind.wrap IntKind.u8 (ari BinOp.quo IntKind.i64 ((((ByteArray.size (encS P o n (0 : Nat) cs #[])) : Nat) : Int)) (256 : Int)))] ++ encS P o n (0 : Nat) cs #[]))) : Int))) with | SB.l b => b | SB.o b => b) == true) = true → false = true) ∧ (((match mkSB (true && false) (ByteArray.toList (ByteArray.mk #[]) == ByteArray.toList (ByteArray.mk #[(66 : UInt8), (76 : UInt8), (87 : UInt8), (75 : UInt8)] ++ strOf [Value.int IntKind.u8 (IntKind.wrap IntKind.u8 (ari BinOp.rem IntKind.i64 ((((ByteArray.size (encS P o n (0 : Nat) cs #[])) : Nat) : Int)) (256 : Int))), Value.int IntKind.u8 (IntKind.wrap IntKind.u8 (ari BinOp.quo IntKind.i64 ((((ByteArray.size (encS P o n (0 : Nat) cs #[])) : Nat) : Int)) (256 : Int)))] ++ encS P o n (0 : Nat) cs #[] ++ fourB (↑(sumN (ByteArray.mk #[(66 : UInt8), (76 : UInt8), (87 : UInt8), (75 : UInt8)] ++ strOf [Value.int IntKind.u8 (IntKind.wrap IntKind.u8 (ari BinOp.rem IntKind.i64 ((((ByteArray.size (encS P o n (0 : Nat) cs #[])) : Nat) : Int)) (256 : Int))), Value.int IntKind.u8 (IntKind.wrap IntKind.u8 (ari BinOp.quo IntKind.i64 ((((ByteArray.size (encS P o n (0 : Nat) cs #[])) : Nat) : Int)) (256 : Int)))] ++ encS P o n (0 : Nat) cs #[]) (ByteArray.size (ByteArray.mk #[(66 : UInt8), (76 : UInt8), (87 : UInt8), (75 : UInt8)] ++ strOf [Value.int IntKind.u8 (IntKind.wrap IntKind.u8 (ari BinOp.rem IntKind.i64 ((((ByteArray.size (encS P o n (0 : Nat) cs #[])) : Nat) : Int)) (256 : Int))), Value.int IntKind.u8 (IntKind.wrap IntKind.u8 (ari BinOp.quo IntKind.i64 ((((ByteArray.size (encS P o n (0 : Nat) cs #[])) : Nat) : Int)) (256 : Int)))] ++ encS P o n (0 : Nat) cs #[]))) : Int))) with | SB.l b => b | SB.o b => b) == true) = false → false = true)))))) ∧ ((greatV n q cs o == false) = false → true = true)) := by kernel_rfl
theorem jb_e0 (P : Int) (q b : ByteArray) : (run EB 1000 0 (jbC P (.f .e0) q b) M0).vc (boolR true) (fun _ _ => False) =
    (((decide ((6000 : Nat) < ByteArray.size q) == false) = true → (decide (((((ByteArray.size b) : Nat) : Int)) > (6000 : Int)) = true → true = true) ∧ (decide (((((ByteArray.size b) : Nat) : Int)) > (6000 : Int)) = false → ((decide (P < (1 : Int)) == false) = true → ((decide (P > (64 : Int)) == false) = true → (ByteArray.size b < (9223372036854775807 : Nat) ∧ True) ∧ (ByteArray.size b < (9223372036854775807 : Nat) ∧ True) ∧ (((↑(sumN b (ByteArray.size b)) : Int) != (↑(sumN b (ByteArray.size b)) : Int)) = true → false = true) ∧ (((↑(sumN b (ByteArray.size b)) : Int) != (↑(sumN b (ByteArray.size b)) : Int)) = false → true = true)) ∧ ((decide (P > (64 : Int)) == false) = false → (ByteArray.size b < (9223372036854775807 : Nat) ∧ True) ∧ (ByteArray.size b < (9223372036854775807 : Nat) ∧ True) ∧ (((↑(sumN b (ByteArray.size b)) : Int) != (↑(sumN b (ByteArray.size b)) : Int)) = true → false = true) ∧ (((↑(sumN b (ByteArray.size b)) : Int) != (↑(sumN b (ByteArray.size b)) : Int)) = false → true = true))) ∧ ((decide (P < (1 : Int)) == false) = false → (ByteArray.size b < (9223372036854775807 : Nat) ∧ True) ∧ (ByteArray.size b < (9223372036854775807 : Nat) ∧ True) ∧ (((↑(sumN b (ByteArray.size b)) : Int) != (↑(sumN b (ByteArray.size b)) : Int)) = true → false = true) ∧ (((↑(sumN b (ByteArray.size b)) : Int) != (↑(sumN b (ByteArray.size b)) : Int)) = false → true = true)))) ∧ ((decide ((6000 : Nat) < ByteArray.size q) == false) = false → true = true)) := by kernel_rfl
end Go.Proofs.Ytapkbgccbmjfaaa
/- Of journal: the known journal. No condition. -/
namespace Go.Proofs.Ytapkbgccbmjfaaa
set_option maxRecDepth 100000
theorem wakes_vc (r : Bool) : (run E0 1000000 0 [callFr 9 Try.f9.ntmps [] (Try.f9.body.getD .skip)] ⟨0, .nil, []⟩).vc (boolR r) (fun _ _ => False) =
    (((6 : Int) ≤ (9223372036854775807 : Int) ∧ True) ∧ ((9 : Int) ≤ (9223372036854775807 : Int) ∧ True) ∧ ((9 : Int) ≤ (9223372036854775807 : Int) ∧ True) ∧ ((13 : Int) ≤ (9223372036854775807 : Int) ∧ True) ∧ ((9 : Int) ≤ (9223372036854775807 : Int) ∧ True) ∧ ((13 : Int) ≤ (9223372036854775807 : Int) ∧ True) ∧ ((3 : Int) ≤ (9223372036854775807 : Int) ∧ True) ∧ ((7 : Int) ≤ (9223372036854775807 : Int) ∧ True) ∧ ((7 : Int) ≤ (9223372036854775807 : Int) ∧ True) ∧ ((20 : Int) ≤ (9223372036854775807 : Int) ∧ True) ∧ ((9 : Int) ≤ (9223372036854775807 : Int) ∧ True) ∧ ((13 : Int) ≤ (9223372036854775807 : Int) ∧ True) ∧ ((7 : Int) ≤ (9223372036854775807 : Int) ∧ True) ∧ ((7 : Int) ≤ (9223372036854775807 : Int) ∧ True) ∧ ((21 : Int) ≤ (9223372036854775807 : Int) ∧ True) ∧ ((9 : Int) ≤ (9223372036854775807 : Int) ∧ True) ∧ ((13 : Int) ≤ (9223372036854775807 : Int) ∧ True) ∧ ((7 : Int) ≤ (9223372036854775807 : Int) ∧ True) ∧ ((7 : Int) ≤ (9223372036854775807 : Int) ∧ True) ∧ ((21 : Int) ≤ (9223372036854775807 : Int) ∧ True) ∧ ((9 : Int) ≤ (9223372036854775807 : Int) ∧ True) ∧ ((13 : Int) ≤ (9223372036854775807 : Int) ∧ True) ∧ ((7 : Int) ≤ (9223372036854775807 : Int) ∧ True) ∧ ((7 : Int) ≤ (9223372036854775807 : Int) ∧ True) ∧ ((2166136261 : Int) == (2166136261 : Int)) = r) := by kernel_rfl
end Go.Proofs.Ytapkbgccbmjfaaa
/- Of journal: Encode of a script that came in, without picks: its states. No condition. -/
namespace Go.Proofs.Ytapkbgccbmjfaaa
noncomputable section
def rdM3 (_v : Bool) (cs bs : Array Value) (ty ty' : TypeId) : SMem := ⟨2, ((Tr.nil : Tr SBlk).set 0 (some ⟨.raw cs, ty, false⟩)).set 1 (some ⟨.raw bs, ty', false⟩), []⟩
section
variable (v w : Bool) (P : Int) (o n k' : Nat) (cs bs : Array Value) (ty ty' : TypeId)
def xR : Tree := gR EV 2 (encC P (slC 0 o n) (pkC w k')) (rdM3 v cs bs ty ty')
def xF0 : List SFr := (xR v w P o n k' cs bs ty ty').fsE.map SFr.bare
def xM0 : SMem := (xR v w P o n k' cs bs ty ty').memE.bare
def xF1 (i : Int) (k : Nat) : List SFr := setSl [(21, i64 (.o i)), (4, .s (.c (.f (.slice 4 (.l 0) (.o k) (.full 1)))))] (dropSl [17] (xF0 v w P o n k' cs bs ty ty'))
def xM1 (vs : Array Value) : SMem := putAll [(4, .pop vs)] (xM0 v w P o n k' cs bs ty ty')
def xS0 : Tree := stepT EV.go (run EV 1000) 2 (headF (xF0 v w P o n k' cs bs ty ty')) (xM0 v w P o n k' cs bs ty ty')
def xS1 (i : Int) (k : Nat) (vs : Array Value) : Tree := stepT EV.go (run EV 1000) 2 (headF (xF1 v w P o n k' cs bs ty ty' i k)) (xM1 v w P o n k' cs bs ty ty' vs)
def xN0 (fs : List SFr) (m : SMem) : Prop := subOk 2 (idFrom 2 (xM0 v w P o n k' cs bs ty ty').next) (xF0 v w P o n k' cs bs ty ty') (xM0 v w P o n k' cs bs ty ty') fs m
def xN1 (Q : Int → Nat → Array Value → Prop) (fs : List SFr) (m : SMem) : Prop := match fs with
  | f :: _ => match rdI f 21, rdS f 4 m with
    | some i, some (some (sid, k, vs)) => Q i k vs ∧ subOk 2 [(2, 2), (3, 3), (4, sid)] (headF (xF1 v w P o n k' cs bs ty ty' i k)) (xM1 v w P o n k' cs bs ty ty' vs) fs m
    | _, _ => False
  | [] => False
end
def xT0 : List SIt := headTd (xF0 true false 0 0 0 0 #[] #[] 0 0)
def xH0 : List SIt := headTd (headF (xF0 true false 0 0 0 0 #[] #[] 0 0))
end
end Go.Proofs.Ytapkbgccbmjfaaa
/- Of journal: that Encode's rounds, as propositions. No condition. -/
namespace Go.Proofs.Ytapkbgccbmjfaaa
set_option maxRecDepth 100000
theorem xn_start (P : Int) (o n k' : Nat) (cs bs : Array Value) (ty ty' : TypeId) (ok : Bool) (e : ByteArray) : (xR true false P o n k' cs bs ty ty').vc (encA ok e) (xN0 true false P o n k' cs bs ty ty') =
    (((decide (P < (1 : Int)) == false) = true → ((decide (P > (64 : Int)) == false) = true → ((decide ((↑n : Int) < (1 : Int)) == false) = true → ((decide ((↑n : Int) > (8 : Int)) == false) = true → (rowOk true cs o n ∧ True) ∧ (((!anyV true cs o n) == true) = true → CallKind.normal = CallKind.normal ∧ TodoOk (ren 2 [(2, 2), (3, 3), (4, 4)]) xT0 xT0 ∧ P = P ∧ o = o ∧ n = n ∧ Value.slice none (0 : Nat) (0 : Nat) = Value.slice none (0 : Nat) (0 : Nat) ∧ P = P ∧ o = o ∧ n = n ∧ Value.slice none (0 : Nat) (0 : Nat) = Value.slice none (0 : Nat) (0 : Nat) ∧ (↑n : Int) = (↑n : Int) ∧ P = P ∧ o = o ∧ n = n ∧ Value.string (ByteArray.mk #[]) = Value.string (ByteArray.mk #[]) ∧ IntKind.wrap IntKind.u8 (↑n : Int) = IntKind.wrap IntKind.u8 (↑n : Int) ∧ IntKind.wrap IntKind.u8 P = IntKind.wrap IntKind.u8 P ∧ (↑n : Int) = (↑n : Int) ∧ o = o ∧ n = n ∧ ty = ty ∧ cs = cs ∧ ty' = ty' ∧ bs = bs ∧ (32 : Nat) = (32 : Nat) ∧ P = P ∧ o = o ∧ n = n ∧ Value.slice none (0 : Nat) (0 : Nat) = Value.slice none (0 : Nat) (0 : Nat) ∧ (32 : Nat) = (32 : Nat) ∧ P = P ∧ o = o ∧ n = n ∧ Value.slice none (0 : Nat) (0 : Nat) = Value.slice none (0 : Nat) (0 : Nat) ∧ (5 : Nat) = (5 : Nat) ∧ IntKind.wrap IntKind.u8 P = IntKind.wrap IntKind.u8 P ∧ IntKind.wrap IntKind.u8 (↑n : Int) = IntKind.wrap IntKind.u8 (↑n : Int) ∧ True) ∧ (((!anyV true cs o n) == true) = false → ok = false ∧ StrIs (ByteArray.mk #[]) ByteArray.empty ∧ (3 : Int) = (3 : Int))) ∧ ((decide ((↑n : Int) > (8 : Int)) == false) = false → ok = false ∧ StrIs (ByteArray.mk #[]) ByteArray.empty ∧ (3 : Int) = (3 : Int))) ∧ ((decide ((↑n : Int) < (1 : Int)) == false) = false → ok = false ∧ StrIs (ByteArray.mk #[]) ByteArray.empty ∧ (3 : Int) = (3 : Int))) ∧ ((decide (P > (64 : Int)) == false) = false → ok = false ∧ StrIs (ByteArray.mk #[]) ByteArray.empty ∧ (3 : Int) = (3 : Int))) ∧ ((decide (P < (1 : Int)) == false) = false → ok = false ∧ StrIs (ByteArray.mk #[]) ByteArray.empty ∧ (3 : Int) = (3 : Int))) := by kernel_rfl
theorem xn_first (P : Int) (o n k' : Nat) (cs bs : Array Value) (ty ty' : TypeId) (ok : Bool) (e : ByteArray) (Q : Int → Nat → Array Value → Prop) : (xS0 true false P o n k' cs bs ty ty').vc (encA ok e) (xN1 true false P o n k' cs bs ty ty' Q) =
    ((decide ((0 : Int) < (↑n : Int)) = true → (((0 : Int) ≤ (0 : Int) ∧ (0 : Int) < (↑n : Int)) ∧ True) ∧ (cs[o]? = some (Value.string (strAt cs o)) ∧ True) ∧ ((((3 : Nat) + ByteArray.size (strAt cs o)) * 1 ≤ (140737488355328 : Nat) ∧ (3 : Nat) + ByteArray.size (strAt cs o) ≤ (140737488355328 : Nat)) ∧ True) ∧ Q (1 : Int) ((3 : Nat) + ByteArray.size (strAt cs o)) (#[Value.int IntKind.u8 (IntKind.wrap IntKind.u8 P), Value.int IntKind.u8 (IntKind.wrap IntKind.u8 (↑n : Int)), Value.int IntKind.u8 (IntKind.wrap IntKind.u8 (ari BinOp.quo IntKind.i64 ((((ByteArray.size (strAt cs o)) : Nat) : Int)) (6 : Int)))] ++ Array.map (fun b => Value.int IntKind.u8 (↑(UInt8.toNat b) : Int)) (ByteArray.data (strAt cs o))) ∧ CallKind.normal = CallKind.normal ∧ TodoOk (ren 2 [(2, 2), (3, 3), (4, 7)]) xH0 xH0 ∧ P = P ∧ o = o ∧ n = n ∧ Value.slice none (0 : Nat) (0 : Nat) = Value.slice none (0 : Nat) (0 : Nat) ∧ P = P ∧ o = o ∧ n = n ∧ Value.slice none (0 : Nat) (0 : Nat) = Value.slice none (0 : Nat) (0 : Nat) ∧ (↑n : Int) = (↑n : Int) ∧ P = P ∧ o = o ∧ n = n ∧ (1 : Int) = (1 : Int) ∧ Value.string (ByteArray.mk #[]) = Value.string (ByteArray.mk #[]) ∧ (3 : Nat) + ByteArray.size (strAt cs o) = (3 : Nat) + ByteArray.size (strAt cs o) ∧ IntKind.wrap IntKind.u8 (↑n : Int) = IntKind.wrap IntKind.u8 (↑n : Int) ∧ IntKind.wrap IntKind.u8 P = IntKind.wrap IntKind.u8 P ∧ (↑n : Int) = (↑n : Int) ∧ o = o ∧ n = n ∧ ty = ty ∧ cs = cs ∧ ty' = ty' ∧ bs = bs ∧ (32 : Nat) = (32 : Nat) ∧ P = P ∧ o = o ∧ n = n ∧ Value.slice none (0 : Nat) (0 : Nat) = Value.slice none (0 : Nat) (0 : Nat) ∧ (32 : Nat) = (32 : Nat) ∧ P = P ∧ o = o ∧ n = n ∧ Value.slice none (0 : Nat) (0 : Nat) = Value.slice none (0 : Nat) (0 : Nat) ∧ (5 : Nat) = (5 : Nat) ∧ #[Value.int IntKind.u8 (IntKind.wrap IntKind.u8 P), Value.int IntKind.u8 (IntKind.wrap IntKind.u8 (↑n : Int)), Value.int IntKind.u8 (IntKind.wrap IntKind.u8 (ari BinOp.quo IntKind.i64 ((((ByteArray.size (strAt cs o)) : Nat) : Int)) (6 : Int)))] ++ Array.map (fun b => Value.int IntKind.u8 (↑(UInt8.toNat b) : Int)) (ByteArray.data (strAt cs o)) = #[Value.int IntKind.u8 (IntKind.wrap IntKind.u8 P), Value.int IntKind.u8 (IntKind.wrap IntKind.u8 (↑n : Int)), Value.int IntKind.u8 (IntKind.wrap IntKind.u8 (ari BinOp.quo IntKind.i64 ((((ByteArray.size (strAt cs o)) : Nat) : Int)) (6 : Int)))] ++ Array.map (fun b => Value.int IntKind.u8 (↑(UInt8.toNat b) : Int)) (ByteArray.data (strAt cs o)) ∧ True) ∧ (decide ((0 : Int) < (↑n : Int)) = false → ok = true ∧ StrIs (strOf [Value.int IntKind.u8 (IntKind.wrap IntKind.u8 P), Value.int IntKind.u8 (IntKind.wrap IntKind.u8 (↑n : Int))]) e ∧ (0 : Int) = (0 : Int))) := by kernel_rfl
theorem xn_step (P : Int) (o n k' : Nat) (cs bs : Array Value) (ty ty' : TypeId) (ok : Bool) (e : ByteArray) (i : Int) (k : Nat) (vs : Array Value) (Q : Int → Nat → Array Value → Prop) : (xS1 true false P o n k' cs bs ty ty' i k vs).vc (encA ok e) (xN1 true false P o n k' cs bs ty ty' Q) =
    ((decide (i < (↑n : Int)) = true → (((0 : Int) ≤ i ∧ i < (↑n : Int)) ∧ True) ∧ (cs[o + Int.toNat i * 1]? = some (Value.string (strAt cs (o + Int.toNat i * 1))) ∧ True) ∧ (((k + 1) * 1 ≤ (140737488355328 : Nat) ∧ k + 1 ≤ (140737488355328 : Nat)) ∧ k * 1 = Array.size vs ∧ True) ∧ (((k + 1 + ByteArray.size (strAt cs (o + Int.toNat i * 1))) * 1 ≤ (140737488355328 : Nat) ∧ k + 1 + ByteArray.size (strAt cs (o + Int.toNat i * 1)) ≤ (140737488355328 : Nat)) ∧ (k + 1) * 1 = Array.size (vs ++ #[Value.int IntKind.u8 (IntKind.wrap IntKind.u8 (ari BinOp.quo IntKind.i64 ((((ByteArray.size (strAt cs (o + Int.toNat i * 1))) : Nat) : Int)) (6 : Int)))]) ∧ True) ∧ Q (ari BinOp.add IntKind.i64 i (1 : Int)) (k + 1 + ByteArray.size (strAt cs (o + Int.toNat i * 1))) (vs ++ #[Value.int IntKind.u8 (IntKind.wrap IntKind.u8 (ari BinOp.quo IntKind.i64 ((((ByteArray.size (strAt cs (o + Int.toNat i * 1))) : Nat) : Int)) (6 : Int)))] ++ Array.map (fun b => Value.int IntKind.u8 (↑(UInt8.toNat b) : Int)) (ByteArray.data (strAt cs (o + Int.toNat i * 1)))) ∧ CallKind.normal = CallKind.normal ∧ TodoOk (ren 2 [(2, 2), (3, 3), (4, 7)]) xH0 xH0 ∧ P = P ∧ o = o ∧ n = n ∧ Value.slice none (0 : Nat) (0 : Nat) = Value.slice none (0 : Nat) (0 : Nat) ∧ P = P ∧ o = o ∧ n = n ∧ Value.slice none (0 : Nat) (0 : Nat) = Value.slice none (0 : Nat) (0 : Nat) ∧ (↑n : Int) = (↑n : Int) ∧ P = P ∧ o = o ∧ n = n ∧ ari BinOp.add IntKind.i64 i (1 : Int) = ari BinOp.add IntKind.i64 i (1 : Int) ∧ Value.string (ByteArray.mk #[]) = Value.string (ByteArray.mk #[]) ∧ k + 1 + ByteArray.size (strAt cs (o + Int.toNat i * 1)) = k + 1 + ByteArray.size (strAt cs (o + Int.toNat i * 1)) ∧ IntKind.wrap IntKind.u8 (↑n : Int) = IntKind.wrap IntKind.u8 (↑n : Int) ∧ IntKind.wrap IntKind.u8 P = IntKind.wrap IntKind.u8 P ∧ (↑n : Int) = (↑n : Int) ∧ o = o ∧ n = n ∧ ty = ty ∧ cs = cs ∧ ty' = ty' ∧ bs = bs ∧ (32 : Nat) = (32 : Nat) ∧ P = P ∧ o = o ∧ n = n ∧ Value.slice none (0 : Nat) (0 : Nat) = Value.slice none (0 : Nat) (0 : Nat) ∧ (32 : Nat) = (32 : Nat) ∧ P = P ∧ o = o ∧ n = n ∧ Value.slice none (0 : Nat) (0 : Nat) = Value.slice none (0 : Nat) (0 : Nat) ∧ (5 : Nat) = (5 : Nat) ∧ vs ++ #[Value.int IntKind.u8 (IntKind.wrap IntKind.u8 (ari BinOp.quo IntKind.i64 ((((ByteArray.size (strAt cs (o + Int.toNat i * 1))) : Nat) : Int)) (6 : Int)))] ++ Array.map (fun b => Value.int IntKind.u8 (↑(UInt8.toNat b) : Int)) (ByteArray.data (strAt cs (o + Int.toNat i * 1))) = vs ++ #[Value.int IntKind.u8 (IntKind.wrap IntKind.u8 (ari BinOp.quo IntKind.i64 ((((ByteArray.size (strAt cs (o + Int.toNat i * 1))) : Nat) : Int)) (6 : Int)))] ++ Array.map (fun b => Value.int IntKind.u8 (↑(UInt8.toNat b) : Int)) (ByteArray.data (strAt cs (o + Int.toNat i * 1))) ∧ True) ∧ (decide (i < (↑n : Int)) = false → ((0 : Nat) + k ≤ Array.size vs ∧ AllU8 (Array.extract vs (0 : Nat) ((0 : Nat) + k)).1 ∧ True) ∧ ok = true ∧ StrIs (strOf (Array.toList (Array.extract vs (0 : Nat) ((0 : Nat) + k)))) e ∧ (0 : Int) = (0 : Int))) := by kernel_rfl
theorem xn_no (P : Int) (o n k' : Nat) (cs bs : Array Value) (ty ty' : TypeId) (ok : Bool) (e : ByteArray) : (xR true false P o n k' cs bs ty ty').vc (encA ok e) (fun _ _ => False) =
    (((decide (P < (1 : Int)) == false) = true → ((decide (P > (64 : Int)) == false) = true → ((decide ((↑n : Int) < (1 : Int)) == false) = true → ((decide ((↑n : Int) > (8 : Int)) == false) = true → (rowOk true cs o n ∧ True) ∧ (((!anyV true cs o n) == true) = true → False) ∧ (((!anyV true cs o n) == true) = false → ok = false ∧ StrIs (ByteArray.mk #[]) ByteArray.empty ∧ (3 : Int) = (3 : Int))) ∧ ((decide ((↑n : Int) > (8 : Int)) == false) = false → ok = false ∧ StrIs (ByteArray.mk #[]) ByteArray.empty ∧ (3 : Int) = (3 : Int))) ∧ ((decide ((↑n : Int) < (1 : Int)) == false) = false → ok = false ∧ StrIs (ByteArray.mk #[]) ByteArray.empty ∧ (3 : Int) = (3 : Int))) ∧ ((decide (P > (64 : Int)) == false) = false → ok = false ∧ StrIs (ByteArray.mk #[]) ByteArray.empty ∧ (3 : Int) = (3 : Int))) ∧ ((decide (P < (1 : Int)) == false) = false → ok = false ∧ StrIs (ByteArray.mk #[]) ByteArray.empty ∧ (3 : Int) = (3 : Int))) := by kernel_rfl
end Go.Proofs.Ytapkbgccbmjfaaa
/- Of journal: Encode of a script that came in, without picks. No condition. -/
namespace Go.Proofs.Ytapkbgccbmjfaaa
set_option linter.unusedSectionVars false
set_option maxRecDepth 100000
theorem xT0_ok : TodoOk (ren 2 [(2, 2), (3, 3), (4, 4)]) xT0 xT0 := TodoOk.same (by kernel_rfl)
theorem xH0_7 : TodoOk (ren 2 [(2, 2), (3, 3), (4, 7)]) xH0 xH0 := TodoOk.same (by kernel_rfl)
theorem xN1_good {v w : Bool} {P : Int} {o n k' : Nat} {cs bs : Array Value} {ty ty' : TypeId} {A : SV → SMem → Prop} {Q : Int → Nat → Array Value → Prop} (hg : ∀ i k vs, Q i k vs → Good EV.P A 2 (headF (xF1 v w P o n k' cs bs ty ty' i k)) (xM1 v w P o n k' cs bs ty ty' vs)) {fs : List SFr} {m : SMem} (hb : xN1 v w P o n k' cs bs ty ty' Q fs m) : Good EV.P A 2 fs m := by
  unfold xN1 at hb
  split at hb
  · split at hb
    · exact Good.of_sub hb.2 (hg _ _ _ hb.1)
    · exact hb.elim
  · exact hb.elim
theorem xN0_good {v w : Bool} {P : Int} {o n k' : Nat} {cs bs : Array Value} {ty ty' : TypeId} {A : SV → SMem → Prop} (hg : Good EV.P A 2 (headF (xF0 v w P o n k' cs bs ty ty')) (xM0 v w P o n k' cs bs ty ty')) {fs : List SFr} {m : SMem} (hb : xN0 v w P o n k' cs bs ty ty' fs m) : Good EV.P A 2 fs m :=
  Good.of_sub hb (Good.head hg)
section
variable (P : Int) (o n k' : Nat) (cs bs : Array Value) (ty ty' : TypeId)
theorem xn_round (hS : StrOk cs o n) (hB : BytOk bs 0 k') (hk0 : false = false → k' = 0) (hm : mayS P o n k' cs bs = true) :
    ∀ (K j : Nat), n - j < K → 1 ≤ j → j ≤ n → Good EV.P (encA true (encS P o n k' cs bs)) 2 (headF (xF1 true false P o n k' cs bs ty ty' (j : Int) (progA P n cs o j).size)) (xM1 true false P o n k' cs bs ty ty' (progA P n cs o j)) := by
  unfold mayS at hm
  rw [Bool.and_eq_true, Bool.and_eq_true, decide_eq_true_eq, Bool.not_eq_true', Bool.not_eq_true'] at hm
  obtain ⟨⟨⟨p1, p2, p3, p4, p5⟩, p6⟩, p7⟩ := hm
  intro K
  induction K with
  | zero => intro j h; omega
  | succ K ih =>
    intro j hk hj1 hj
    have hpre : anyS cs o j = false := anyS_at.2 fun t ht => anyS_at.1 p6 t (by omega)
    have hsz := progA_le (P := P) (n := n) hpre
    refine past_vc EV_ok 1000 (xn_step P o n k' cs bs ty ty' true _ (j : Int) (progA P n cs o j).size (progA P n cs o j) (fun i' k vs => ∃ t : Nat, i' = t ∧ k = (progA P n cs o t).size ∧ vs = progA P n cs o t ∧ n - t < K ∧ 1 ≤ t ∧ t ≤ n)) ?_ (fun _ _ h => h)
      (fun fs m hb => xN1_good (fun i' k vs ⟨t, e1, e2, e3, k1, k2, k3⟩ => by rw [e1, e2, e3]; exact ih t k1 k2 k3) hb)
    rw [Int.toNat_natCast, Nat.mul_one]
    refine ⟨fun h => ?_, fun h => ?_⟩
    · have hlt : j < n := by simpa using h
      obtain ⟨i1, i2⟩ := hS.2 j hlt
      have hd := (decOk_size (anyS_at.1 p6 j hlt)).2
      have eA : ari BinOp.add IntKind.i64 (j : Int) 1 = ((j + 1 : Nat) : Int) := by rw [ari_add, i64_nat (show j < 9223372036854775807 by omega)]
      rw [eA]
      refine ⟨⟨⟨by omega, by omega⟩, trivial⟩, ⟨i1, trivial⟩, ⟨⟨by omega, by omega⟩, by omega, trivial⟩, ⟨⟨by omega, by omega⟩, ?_, trivial⟩, ⟨j + 1, rfl, (progA_succ ..).symm, rfl, by omega, by omega, by omega⟩, ?_⟩
      · rw [Array.size_append, Nat.mul_one]; rfl
      · repeat' first | exact trivial | exact xH0_7 | apply And.intro | exact rfl
    · have h1 : ¬ j < n := by simpa using h
      have hjn : j = n := by omega
      rw [hjn]
      rw [hjn] at hsz
      have h0 : k' = 0 := hk0 rfl
      rw [Nat.zero_add, Array.extract_size]
      refine ⟨⟨Nat.le_refl _, progA_u8 P n cs o n, trivial⟩, rfl, ?_, rfl⟩
      show strOf _ = encS P o n k' cs bs
      unfold encS
      rw [h0, Array.extract_zero, Array.append_empty]
theorem xn_good (hS : StrOk cs o n) (hB : BytOk bs 0 k') (hk0 : false = false → k' = 0) (hn : n < 9223372036854775807) : Good Try.prog (encA (mayS P o n k' cs bs) (encS P o n k' cs bs)) 2 (encC P (slC 0 o n) (pkC false k')) (rdM3 true cs bs ty ty') := by
  cases hm : mayS P o n k' cs bs with
  | true =>
    have hm' := hm
    unfold mayS at hm'
    rw [Bool.and_eq_true, Bool.and_eq_true, decide_eq_true_eq, Bool.not_eq_true', Bool.not_eq_true'] at hm'
    obtain ⟨⟨⟨p1, p2, p3, p4, p5⟩, p6⟩, p7⟩ := hm'
    have first : Good EV.P (encA true (encS P o n k' cs bs)) 2 (headF (xF0 true false P o n k' cs bs ty ty')) (xM0 true false P o n k' cs bs ty ty') := by
      refine past_vc EV_ok 1000 (xn_first P o n k' cs bs ty ty' true _ (fun i' k vs => i' = ((1 : Nat) : Int) ∧ k = (progA P n cs o 1).size ∧ vs = progA P n cs o 1)) ?_ (fun _ _ h => h)
        (fun fs m hb => xN1_good (fun i' k vs ⟨e1, e2, e3⟩ => by rw [e1, e2, e3]; exact xn_round P o n k' cs bs ty ty' hS hB hk0 hm (n + 1) 1 (by omega) (by omega) (by omega)) hb)
      have hd := (decOk_size (anyS_at.1 p6 0 (by omega))).2
      obtain ⟨i1, i2⟩ := hS.2 0 (by omega)
      rw [Nat.add_zero] at hd i1
      refine ⟨fun h => ?_, fun h => ?_⟩
      · refine ⟨⟨⟨by omega, by omega⟩, trivial⟩, ⟨i1, trivial⟩, ⟨⟨by omega, by omega⟩, trivial⟩, ⟨rfl, ?_, rfl⟩, ?_⟩
        · rw [progA_succ]
          rfl
        · repeat' first | exact trivial | exact xH0_7 | apply And.intro | exact rfl
      · have h1 : ¬ 0 < n := by simpa using h
        omega
    refine run_vc EV_ok 1000 (xn_start P o n k' cs bs ty ty' true _) ?_ (fun _ _ h => h) (fun fs m hb => xN0_good first hb)
    have d1 : decide (P < 1) = false := decide_eq_false (by omega)
    have d2 : decide (P > 64) = false := decide_eq_false (by omega)
    have d3 : decide ((n : Int) < 1) = false := decide_eq_false (by omega)
    have d4 : decide ((n : Int) > 8) = false := decide_eq_false (by omega)
    have d5 : decide ((k' : Int) > 4000) = false := decide_eq_false (by omega)
    simp only [d1, d2, d3, d4, d5, anyV_t, anyV_f, p6, p7, beq_self_eq_true, Bool.not_false, Bool.not_true, Bool.true_eq_false, Bool.false_eq_true, false_implies, true_implies, reduceCtorEq]
    repeat' first | exact trivial | exact hS | exact hB | exact xT0_ok | apply And.intro | exact rfl
  | false =>
    refine run_vc EV_ok 1000 (xn_no P o n k' cs bs ty ty' false _) ?_ (fun _ _ h => h) (fun fs m hb => hb.elim)
    repeat' first | exact trivial | exact hS | exact hB | exact rfl | apply And.intro | intro _
    all_goals
      exfalso
      have e0 : anyB bs 0 k' = false := by rw [hk0 rfl]; rfl
      have hk4 : k' ≤ 4000 := by have := hk0 rfl; omega
      clear hk0 hB
      simp_all [mayS, anyV]
      try omega
end
end Go.Proofs.Ytapkbgccbmjfaaa
/- Of journal: the contracts hold; JournalBegins' runs end with true. No condition. -/
namespace Go.Proofs.Ytapkbgccbmjfaaa
set_option linter.unusedSectionVars false
set_option linter.unusedVariables false
set_option maxRecDepth 100000
theorem celA_none : celA .empty = #[] := Array.eq_empty_of_size_eq_zero (by unfold celA; rw [Array.size_map]; rfl)
theorem none_size : ByteArray.empty.size = 0 := rfl
theorem encN_con {P : Int} {i : Nat} {o n : SN} {c : SK} {m : SMem} {cs : Array Value} {v : Bool} (hr : rowV m i = some (v, cs)) (r : Bool) (s0 : SV) (hm : mayS P o.den n.den 0 cs #[] = r) (hs : ∀ s m' R R' v, encA r (encS P o.den n.den 0 cs #[]) s m' → s.ok R' v → s0.ok R v) : Con E0 24 [.s (.agg (.ls [.f (.int .i64 (.o P)), .f (.slice i o n c), nilC]))] m (needs [StrOk cs o.den n.den] (.ret s0 m)) := by
  obtain ⟨ty, wr, hb⟩ := rowV_of hr
  have args : ∀ R vs, All2 (SV.ok R) [.s (.agg (.ls [.f (.int .i64 (.o P)), .f (.slice i o n c), nilC]))] vs → All2 (SV.ok (pull (fun _ => i) 2 R)) [scV P (slC 0 o.den n.den) (pkC false 0)] vs := fun R vs ha => by
    match vs, ha with
    | [u], ha => exact ⟨agg3 ha.1 (fun _ h => h) (fun _ h => sl_pull h l02 rfl rfl) (fun _ h => h), trivial⟩
  cases v with
  | true =>
    refine Con.ro E0_ok (l' := [scV P (slC 0 o.den n.den) (pkC false 0)]) (ms := rdM3 true cs cs ty ty) (A := encA r (encS P o.den n.den 0 cs #[])) fn7 body7 rfl (fun _ => i) ?_ args (fun hq => ?_) hs
    · intro x b hx
      rcases get2 hx with ⟨rfl, rfl⟩ | ⟨rfl, rfl⟩
      · exact ⟨l02, rfl, _, hb, rfl, fun R cs' h => h⟩
      · exact ⟨l12, rfl, _, hb, rfl, fun R cs' h => h⟩
    · have hS : StrOk cs o.den n.den := hq _ (by simp)
      have hg := xn_good P o.den n.den 0 cs cs ty ty hS ⟨by omega, fun j hj => by omega⟩ (fun _ => rfl) hS.1
      have e1 : mayS P o.den n.den 0 cs cs = mayS P o.den n.den 0 cs #[] := rfl
      rw [e1, hm, encS_nil] at hg
      exact hg
  | false =>
    refine Con.ro E0_ok (l' := [scV P (slC 0 o.den n.den) (pkC false 0)]) (ms := rdM2 false cs #[] ty ty) (A := encA r (encS P o.den n.den 0 cs #[])) fn7 body7 rfl (fun _ => i) ?_ args (fun hq => ?_) hs
    · intro x b hx
      rcases get2 hx with ⟨rfl, rfl⟩ | ⟨rfl, rfl⟩
      · exact ⟨l02, rfl, _, hb, rfl, fun R cs' h => h⟩
      · refine ⟨l12, rfl, _, hb, rfl, fun R cs' h => ?_⟩
        have h : cs'.toList.take cs.size = cs.toList ∧ ∀ v ∈ cs'.toList, v.oneCell' = true := h
        exact ⟨rfl, h.2⟩
    · have hS : StrOk cs o.den n.den := hq _ (by simp)
      exact hm ▸ en_good_ff P o.den n.den 0 cs #[] ty ty hS ⟨by omega, fun j hj => by omega⟩ (fun _ => rfl) hS.1
theorem encN_ok {m : SMem} {x : SV} {t : Tree} (h : encN m x = some t) : Con E0 24 [x] m t := by
  unfold encN at h
  split at h
  · rename_i P i o n c
    split at h
    · rename_i v cs hr
      cases h
      exact Con.br (fun hm => encN_con hr true _ hm fun _ _ _ _ _ => encA_yes) (fun hm => encN_con hr false _ hm fun _ _ _ _ _ => encA_no)
    · cases h
  · cases h
theorem lit_em {R R' : Ren} {u : Value} (h : (SF.lit (.string ⟨⟨[]⟩⟩)).ok R u) : (SF.opq (.string .empty)).ok R' u := ⟨h.1, rfl⟩
theorem mayE_ok {m : SMem} {x : SV} {t : Tree} (h : mayE m x = some t) : Con E0 14 [x] m t := by
  unfold mayE at h
  split at h
  · rename_i P i o n c
    split at h
    · rename_i v cs hr
      cases h
      obtain ⟨ty, wr, hb⟩ := rowV_of hr
      refine Con.ro E0_ok (l' := [refV P (slC 0 o.den n.den) .empty]) (ms := prM v cs ty) (A := boolR (mayS P o.den n.den 0 cs #[])) fnU9 bodyU9 rfl (fun _ => i) ?_ ?_ (fun hq => ?_) (fun _ _ _ _ _ => boolR_con)
      · intro j b hj
        obtain ⟨rfl, rfl⟩ := prM_get hj
        exact ⟨Nat.zero_lt_one, rfl, _, hb, rfl, fun R cs' h => prA_pull R cs' h⟩
      · intro R vs ha
        match vs, ha with
        | [u], ha => exact ⟨agg3 ha.1 (fun _ h => h) (fun _ h => sl_pull h Nat.zero_lt_one rfl rfl) (fun _ h => lit_em h), trivial⟩
      · have hg := m9_good P o.den n.den .empty cs ty v (hq _ (List.mem_cons_self ..))
        rw [celA_none, none_size] at hg
        exact hg
    · cases h
  · rename_i P
    cases h
    refine Con.ro E0_ok (l' := [refV P (.f .e0) .empty]) (ms := M0) (q := []) (A := boolR false) fnU9 bodyU9 rfl (fun i => i) no_blocks (fun R vs ha => ?_) (fun _ => m9_none P .empty _ (.inr rfl)) (fun s m' R R' v h hv => ?_)
    · match vs, ha with
      | [u], ha => exact ⟨agg3 ha.1 (fun _ h => h) (fun _ h => h) (fun _ h => lit_em h), trivial⟩
    · unfold boolR at h
      split at h
      · rename_i x
        have hv : v = .bool x.den := hv
        rw [h] at hv
        exact hv
      · exact h.elim
  · exact m9T_ok h
theorem fn27b : E0.fn 27 = some Try.f27 := by kernel_rfl
theorem body27b : Try.f27.body = some (Try.f27.body.getD .skip) := by kernel_rfl
theorem bytE_ok {m : SMem} {x : SV} {t : Tree} (h : bytE m x = some t) : Con E0 27 [x] m t := by
  unfold bytE at h
  split at h
  · rename_i P i o n c
    split at h
    · rename_i cs hr
      cases h
      obtain ⟨ty, wr, hb⟩ := rowV_of hr
      refine Con.ro E0_ok (l' := [refV P (slC 0 o.den n.den) .empty]) (ms := prM true cs ty) (A := strQ (encS P o.den n.den 0 cs #[])) fn27b body27b rfl (fun _ => i) ?_ ?_ (fun hq => ?_) (fun _ _ _ _ _ => strQ_con)
      · intro j b hj
        obtain ⟨rfl, rfl⟩ := prM_get hj
        exact ⟨Nat.zero_lt_one, rfl, _, hb, rfl, fun R cs' h => h⟩
      · intro R vs ha
        match vs, ha with
        | [u], ha => exact ⟨agg3 ha.1 (fun _ h => h) (fun _ h => sl_pull h Nat.zero_lt_one rfl rfl) (fun _ h => lit_em h), trivial⟩
      · have hg := b11_good P o.den n.den .empty cs ty (hq _ (by simp))
        rw [celA_none, none_size] at hg
        exact hg (hq _ (by simp))
    · cases h
  · cases h
/-! The known journal. -/
theorem wakes_good : Good Try.prog (boolR true) 0 [callFr 9 Try.f9.ntmps [] (Try.f9.body.getD .skip)] M0 :=
  run_vc E0_ok 1000000 (wakes_vc true) (by repeat' first | exact trivial | exact rfl | decide | apply And.intro) (fun _ _ h => h) (fun _ _ h => h.elim)
theorem wakes_fn : E0.fn 9 = some Try.f9 := by kernel_rfl
theorem wakes_body : Try.f9.body = some (Try.f9.body.getD .skip) := by kernel_rfl
theorem wakes_con (m : SMem) : Con E0 9 [] m (needs [] (.ret (sB (.l true)) m)) :=
  Con.ro E0_ok (l := []) (l' := []) (ms := M0) (q := []) (A := boolR true) wakes_fn wakes_body rfl (fun i => i) no_blocks (fun R vs ha => by match vs, ha with | [], _ => trivial) (fun _ => wakes_good) (fun _ _ _ _ _ => boolR_lit)
theorem conB_ok (g : FuncId) (l : List SV) (m : SMem) (t : Tree) (h : conB g l m = some t) : Con E0 g l m t := by
  unfold conB at h
  split at h
  · cases h; exact wakes_con m
  · exact (sumT_ok h).1
  · exact (sumT_ok h).2
  · exact mayE_ok h
  · exact greatT_ok h
  · exact encN_ok h
  · exact smT_ok h
  · exact bytE_ok h
  · exact foT_ok h
  · cases h
theorem EB_ok : EnvOk EB := EnvOk.with E0_ok _ _ conB_ok
/-! Heads. -/
def magB : ByteArray := ByteArray.mk #[66, 76, 87, 75]
def twoB (z : Nat) : ByteArray := strOf [Value.int .u8 (IntKind.wrap .u8 (z : Int)), Value.int .u8 (IntKind.wrap .u8 (ari .shr .i64 (z : Int) 8))]
def twoR (z : Nat) : ByteArray := strOf [Value.int .u8 (IntKind.wrap .u8 (ari .rem .i64 (z : Int) 256)), Value.int .u8 (IntKind.wrap .u8 (ari .quo .i64 (z : Int) 256))]
theorem twoB_size (z : Nat) : (twoB z).size = 2 := strOf_size _
theorem two_eq {z : Nat} (h : z ≤ 1000000) : twoR z = twoB z := by
  unfold twoR twoB
  have e1 : IntKind.wrap .u8 (ari .rem .i64 (z : Int) 256) = IntKind.wrap .u8 (z : Int) := by
    rw [ari_rem, Int.tmod_eq_emod_of_nonneg (by omega), IntKind.wrap_u8, IntKind.wrap_u8]
    omega
  have e2 : ari .quo .i64 (z : Int) 256 = ari .shr .i64 (z : Int) 8 := by
    rw [ari_quo, ari_shr, Int.tdiv_eq_ediv_of_nonneg (by omega), Go.IntWalk.i64_in _ (by omega), Int.fdiv_eq_ediv_of_nonneg _ (by decide)]
    rfl
  rw [e1, e2]
theorem enc0_size {P : Int} {o n : Nat} {cs : Array Value} (hm : mayS P o n 0 cs #[] = true) : (encS P o n 0 cs #[]).size ≤ 4000 := by
  have hm' : mayS P o n ByteArray.empty.size cs (celA .empty) = true := by rw [celA_none, none_size]; exact hm
  obtain ⟨_, _, _, p4, p5, p6, _⟩ := may_facts P o n .empty cs hm'
  have h1 := x_size P o n .empty cs hm'
  have h2 := BLs_len P o n .empty cs hm' n
  have h3 := progA_le (P := P) (n := n) p6
  rw [celA_none, none_size] at h1
  omega
theorem jb_sum (x : Int) : ((x != x) = true → false = true) := by
  intro h
  simp at h
theorem app_none (X : ByteArray) : ByteArray.mk #[] ++ X = X := by
  apply ByteArray.ext
  rw [ByteArray.data_append]
  simp
theorem jb_good (P : Int) (o n : Nat) (q b : ByteArray) (cs : Array Value) (ty : TypeId) (hI : StrI cs o n) : Good Try.prog (boolR true) 1 (jbC P (slC 0 o n) q b) (prM true cs ty) := by
  refine run_vc EB_ok 1000 (jb_row P o n q b cs ty) ?_ (fun _ _ h => h) (fun _ _ h => h.elim)
  refine ⟨⟨hI, trivial⟩, fun hg => ⟨fun _ => rfl, fun h8 => ?_⟩, fun _ => rfl⟩
  have hg : greatV n q cs o = false := by simpa using hg
  have h8 : b.size ≤ 6000 := by have := of_decide_eq_false h8; omega
  obtain ⟨hS, _⟩ := great_facts hI hg
  have hR : StrR cs o n := by
    unfold greatV at hg
    rw [Bool.or_eq_false_iff, Bool.or_eq_false_iff, decide_eq_false_iff_not, decide_eq_false_iff_not] at hg
    obtain ⟨⟨h1, h2⟩, h3⟩ := hg
    exact ⟨by omega, fun j hj => ⟨hI.2 j hj, by have := anyG_at.1 h3 j hj; omega⟩⟩
  refine ⟨⟨hS, trivial⟩, fun hm => ?_, fun hm => ⟨⟨by omega, trivial⟩, ⟨by omega, trivial⟩, jb_sum _, fun _ => ⟨⟨hR, trivial⟩, fun _ => rfl, fun h => by rw [hm] at h; cases h⟩⟩⟩
  have hz := enc0_size hm
  generalize encS P o n 0 cs #[] = e at *
  have htr := two_eq (z := e.size) (by omega)
  have htz := twoB_size e.size
  unfold twoR at htr
  rw [htr, show strOf [Value.int .u8 (IntKind.wrap .u8 ((e.size : Nat) : Int)), Value.int .u8 (IntKind.wrap .u8 (ari .shr .i64 ((e.size : Nat) : Int) 8))] = twoB e.size from rfl]
  rw [show ByteArray.mk #[(66 : UInt8), (76 : UInt8), (87 : UInt8), (75 : UInt8)] = magB from rfl]
  have hX : smA (ByteArray.mk #[]) (magB ++ twoB e.size ++ e) = magB ++ twoB e.size ++ e ++ fourB (sumN (magB ++ twoB e.size ++ e) (magB ++ twoB e.size ++ e).size : Int) := by unfold smA; rw [app_none]
  rw [hX]
  have hm4 : magB.size = 4 := rfl
  have hf := fourB_size (sumN (magB ++ twoB e.size ++ e) (magB ++ twoB e.size ++ e).size : Int)
  rw [hf]
  simp only [ByteArray.size_append, htz, hm4]
  generalize magB ++ twoB e.size ++ e ++ fourB _ = F
  have hs : ((match mkSB (false && false) (ByteArray.toList F == ByteArray.toList F) with | SB.l b => b | SB.o b => b) == true) = true := same_str F
  refine ⟨⟨by omega, trivial⟩, ⟨by omega, trivial⟩, ⟨by omega, trivial⟩, ⟨by omega, trivial⟩, ⟨by omega, trivial⟩, jb_sum _, fun _ => ⟨⟨hR, trivial⟩, fun h => (by rw [hm] at h; cases h), fun _ => ⟨⟨hS, hm, trivial⟩, ⟨by omega, trivial⟩, ⟨by omega, trivial⟩, ⟨by omega, trivial⟩, ⟨by omega, trivial⟩, fun _ => by trivial, fun h => absurd (hs.symm.trans h) (by decide)⟩⟩⟩
theorem jb_good0 (P : Int) (q b : ByteArray) : Good Try.prog (boolR true) 0 (jbC P (.f .e0) q b) M0 := by
  refine run_vc EB_ok 1000 (jb_e0 P q b) ?_ (fun _ _ h => h) (fun _ _ h => h.elim)
  refine ⟨fun _ => ⟨fun _ => rfl, fun h8 => ?_⟩, fun _ => rfl⟩
  have h8 : b.size ≤ 6000 := by have := of_decide_eq_false h8; omega
  have hb : b.size < 9223372036854775807 := by omega
  repeat' first | exact trivial | exact hb | exact jb_sum _ | exact rfl | apply And.intro | intro _
end Go.Proofs.Ytapkbgccbmjfaaa
/- How a call of data enters the symbolic machine, and how what it leaves is told; without package-level variables. No condition. -/
namespace Go.Proofs.Ytapkbgccbmjfaaa
noncomputable section
open Go.ChangeShapes Go.WideShapes Go.ChangeAt Go.RowKit Go.Deep

theorem own : ownKnob Try.prog.godebug = none := by kernel_rfl
theorem laidOut : laidOutB Try.prog = true := by kernel_rfl
theorem sub_get {l : List Value} {a b o : Nat} {v : Value} (h : ((l.drop a).take b)[o]? = some v) : l[a + o]? = some v := by
  rw [List.getElem?_take] at h
  split at h
  · rw [List.getElem?_drop] at h; exact h
  · cases h
theorem sub_one {l : List Value} {a b : Nat} {v : Value} (h : (l.drop a).take b = [v]) : l[a]? = some v := by
  have : ((l.drop a).take b)[0]? = some v := by rw [h]; rfl
  exact sub_get this
section
variable {H : Type} {enc : TypeId × Value → H} {P : Program} {w : World} {base : Nat} {spare : Nat → Bool} {held : Bool}
theorem field_of {t : TypeId} {fs : Array Field} {fuel : Nat} {cs : List Value} {x : DataW H × List MemPlace} (ht : P.underlying t = some (.struct fs)) (h : DataW.trod enc P w base spare held fuel t cs = some x)
    (i : Nat) {f : Field} (hf : fs[i]? = some f) : ∃ n y, DataW.trod enc P w base spare held n f.type ((cs.drop f.offset).take (P.cellsOf f.type)) = some y := by
  obtain ⟨ys, n, _, _, _, hyl, hg⟩ := DataW.trod_struct ht h
  have hlt : i < fs.size := (Array.getElem?_eq_some_iff.1 hf).1
  have hys : ys[i]? = some (ys[i]'(by omega)) := List.getElem?_eq_getElem (by omega)
  exact ⟨n, _, (hg i f hf).trans hys⟩
theorem add_none (b off n : Nat) : (⟨b, off, none⟩ : Addr).add n = ⟨b, off + n, none⟩ := by
  unfold Addr.add
  split
  · rename_i e; subst e; rfl
  · rfl
/-- A slice that came in: where it lies, and each element as it reads. -/
theorem slice_cells {t e : TypeId} {base' C : Nat} {fuel : Nat} {A : Option Addr} {len cap : Nat} {x : DataW H × List MemPlace} (ht : P.underlying t = some (.slice e)) (hC : P.cellsOf e = C)
    (hok : Value.okWide P w .any base t (.slice A len cap)) (h : DataW.trod enc P w base' (fun _ => true) held fuel t [.slice A len cap] = some x) :
    (A = none ∧ len = 0 ∧ cap = 0) ∨ ∃ b off cs ty fz, A = some ⟨b, off, none⟩ ∧ len ≤ cap ∧ cap ≤ maxLen ∧ w.heap[b]? = some (.cells cs ty fz) ∧
      ∀ j, j < len → ∃ n y, DataW.trod enc P w base' (fun _ => true) held n e ((cs.toList.drop (off + j * C)).take C) = some y := by
  rcases open_slice ht h with ⟨hcs, hx⟩ | ⟨a, len', cap', m, n, D, Pl, hcs, _, hl, hmx, hm, hx, hi⟩
  · simp at hcs
    exact .inl hcs
  · simp at hcs
    obtain ⟨rfl, rfl, rfl⟩ := hcs
    simp at hm
    subst hm
    obtain ⟨b, off, spot⟩ := a
    simp only [Value.okWide, ht, Cell.okWide, Cell.ok] at hok
    obtain ⟨_, _, _, hs, _, _, hsh, _⟩ := hok
    have hs : spot = none := hs
    subst hs
    cases ho : w.heap[b]? with
    | none => simp [World.shape?, ho] at hsh
    | some o =>
      have hcells : ∃ cs ty fz, o = .cells cs ty fz := by
        cases o <;> first | exact ⟨_, _, _, rfl⟩ | simp [World.shape?, ho] at hsh
      obtain ⟨cs, ty, fz, rfl⟩ := hcells
      refine .inr ⟨b, off, cs, ty, fz, rfl, hl, hmx, ho, fun j hj => ?_⟩
      obtain ⟨cs', hc, ht'⟩ := hi j (by omega)
      rw [hC] at hc
      obtain ⟨_, hcl, hat⟩ := World.cells?_some hc
      refine ⟨n, (D j, Pl j), ?_⟩
      rw [← ht']
      congr 1
      apply List.ext_getElem?
      intro i
      rw [List.getElem?_take]
      by_cases hi' : i < C
      · rw [if_pos hi', ← hat i hi', add_none, add_none]
        simp [World.cell?, ho, Nat.add_assoc]
      · rw [if_neg hi', List.getElem?_eq_none (by omega)]
theorem post_of_below {f : Func} {s : ChangeSpec} {apart fresh handsOn again : Bool} {W W' : World} {args : Array Value} {v : Value} {ds gs : List (DataW H)} {before pa pv : List MemPlace}
    (hW : DataW.Whole enc P f.params.toList s.vars apart W args.toList ds gs before)
    (hres : ∀ (b : Nat) (sp : Nat → Bool) (hd : Bool), DataW.TrodAll enc P W' b sp hd f.resultTypes.toList (v.resultList f.resultTypes.size) (s.fn H (ds ++ gs)).results [])
    (hargs : ∀ sp : Nat → Bool, (∀ p ∈ before, sp p.block = true) → DataW.TrodAll enc P W' 0 sp true f.params.toList args.toList (s.fn H (ds ++ gs)).args pa)
    (hvars : ∀ sp : Nat → Bool, (∀ p ∈ before, sp p.block = true) → DataW.TrodVars enc P W' sp s.vars (s.fn H (ds ++ gs)).vars pv)
    (hps : before = pa ++ pv) (hb : Below W.heap.size W W')
    (hok : ∀ (j : Nat) (t : TypeId) (r : Value), f.resultTypes[j]? = some t → (v.resultList f.resultTypes.size)[j]? = some r → Value.okWide P W' .any 0 t r) :
    s.post enc P f apart fresh handsOn again W args v W' := by
  have hlt : ∀ p ∈ before, p.block < W.heap.size := fun p hp => hW.lt p hp
  have hold : ∀ p ∈ before, (fun b => decide (b < W.heap.size)) p.block = true := fun p hp => by simpa using hlt p hp
  refine ⟨ds, gs, before, [], pa, pv, hW, hres _ _ _, hargs _ hold, hvars _ hold, World.keptBut_mono (fun p hp => ⟨hp, ?_⟩) (hb.frame (· ∈ before)), fun _ => ?_⟩
  · rw [hps, List.mem_append] at hp
    exact Or.inr hp
  · obtain ⟨_, _, _, _, _, hz, hn⟩ := hW
    refine ⟨hok, _, _, ([] ++ pa) ++ pv, ⟨[] ++ pa, pv, trodAll_append (hargs _ (fun _ _ => rfl)) (hres _ _ _), hvars _ (fun _ _ => rfl), rfl, ?_, ?_⟩, ?_⟩
    · intro b off hp
      have hin : MemPlace.cell b off ∈ before := by rw [hps]; simpa using hp
      rw [hb.frozen (hlt _ hin)]
      exact hz b off hin
    · intro ha
      have := hn ha
      rw [hps] at this
      simpa using this
    · intro p hp _
      rw [hps]
      simpa using hp
end
theorem below_of {n0 : Nat} {w0 w : World} (h : BelowF n0 (fun _ => False) w0 w) : Below n0 w0 w := ⟨h.os, h.tape, h.output, h.size, fun k hk => h.block k hk fun x => x⟩
theorem rel_empty (hg : glTab = []) (W : World) (n : Nat) : Rel W.heap.size (fun _ => False) W (fun _ => none) ⟨n, .nil, []⟩ W :=
  ⟨fun _ _ _ _ _ _ h => by (cases h), fun _ _ h => by (cases h), fun _ _ h => by (cases h), fun i b h => by (have h : (Tr.nil : Tr SBlk).get i = some b := h; rw [Tr.get_nil] at h; cases h), Nat.le_refl _, BelowF.refl _ _ _,
    fun _ _ h => by (cases h), fun _ _ _ _ _ _ h => by (cases h), fun g cs h => by rw [hg] at h; cases h⟩
/-- One block came in, at which nothing is written. -/
def oneD (ds : Array Value) (ty : TypeId) : SMem := ⟨1, Tr.node .nil (some ⟨.raw ds, ty, false⟩) .nil, []⟩
theorem one_get {ds : Array Value} {ty : TypeId} {i : Nat} {b : SBlk} (h : getB (oneD ds ty).bl i = some b) : i = 0 ∧ b = ⟨.raw ds, ty, false⟩ := by
  unfold getB oneD at h
  cases i with
  | zero => cases h; exact ⟨rfl, rfl⟩
  | succ i =>
    rw [Tr.get_succ, Tr.get_nil, ite_self] at h
    cases h
theorem rel_one (hg : glTab = []) {W : World} {b : Nat} {cs : Array Value} {ty : TypeId} {fz : Nat × Nat} (hb : W.heap[b]? = some (.cells cs ty fz)) :
    Rel W.heap.size (fun _ => False) W (fun i => if i = 0 then some ⟨b, cs.size⟩ else none) (oneD cs ty) W := by
  have key : ∀ {i : Nat} {g : Loc}, (if i = 0 then some (⟨b, cs.size⟩ : Loc) else none) = some g → i = 0 ∧ g = ⟨b, cs.size⟩ := by
    intro i g h
    split at h
    · rename_i e; cases h; exact ⟨e, rfl⟩
    · cases h
  have hlt : b < W.heap.size := (Array.getElem?_eq_some_iff.1 hb).1
  refine ⟨fun i j g h b c h1 h2 _ _ _ _ => by rw [(key h1).1, (key h2).1], fun i g h => by rw [(key h).2]; exact hlt, fun i g h => by rw [(key h).1]; exact Nat.zero_lt_one, fun i c hc => ?_, Nat.le_refl _, BelowF.refl _ _ _,
    fun _ _ h => by (cases h), fun _ _ _ _ _ _ _ _ _ h => by (cases h), fun g cs h => by rw [hg] at h; cases h⟩
  obtain ⟨rfl, rfl⟩ := one_get hc
  exact ⟨⟨b, cs.size⟩, cs, fz, rfl, hb, rfl, rfl, fun h => by cases h⟩
end
end Go.Proofs.Ytapkbgccbmjfaaa
