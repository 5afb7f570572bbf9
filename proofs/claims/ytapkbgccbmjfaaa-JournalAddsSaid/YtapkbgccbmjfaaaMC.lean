/- Of journal: the reference's Decode's rounds and Same's, as propositions. No condition. -/
import Derived.Test.YtapkbgccbmjfaaaMB
import Derived.Laws.BitsAllLaws
import Derived.Test.YtapkbgccbmjfaaaMA
namespace Go.Proofs.Ytapkbgccbmjfaaa
set_option maxRecDepth 100000
theorem f_start (b : ByteArray) (ok : Bool) (P : Int) (n : Nat) (q : ByteArray) (rs : Array Value) (Q0 : Int → Int → Int → Int → Prop) : (gR EJ 0 (fC b) M0).vc (fA ok P n q rs) (fN0 b Q0) =
    ((decide (((((ByteArray.size b) : Nat) : Int)) < (2 : Int)) = true → ok = false ∧ (0 : Int) = (0 : Int) ∧ false = false ∧ True) ∧ (decide (((((ByteArray.size b) : Nat) : Int)) < (2 : Int)) = false → (((0 : Int) ≤ (0 : Int) ∧ (0 : Int) < (↑((ByteArray.size b)) : Int)) ∧ True) ∧ (((0 : Int) ≤ (1 : Int) ∧ (1 : Int) < (↑((ByteArray.size b)) : Int)) ∧ True) ∧ Q0 (IntKind.wrap IntKind.i64 (byteAt b (1 : Nat))) (2 : Int) (0 : Int) (IntKind.wrap IntKind.i64 (byteAt b (0 : Nat))) ∧ CallKind.normal = CallKind.normal ∧ TodoOk (ren 0 [(0, 0), (1, 1)]) fT0 fT0 ∧ Value.string b = Value.string b ∧ (0 : Int) = (0 : Int) ∧ IntKind.wrap IntKind.i64 (byteAt b (1 : Nat)) = IntKind.wrap IntKind.i64 (byteAt b (1 : Nat)) ∧ (2 : Int) = (2 : Int) ∧ (24 : Nat) = (24 : Nat) ∧ Value.slice none (0 : Nat) (0 : Nat) = Value.slice none (0 : Nat) (0 : Nat) ∧ Value.string (ByteArray.mk #[]) = Value.string (ByteArray.mk #[]) ∧ (24 : Nat) = (24 : Nat) ∧ IntKind.wrap IntKind.i64 (byteAt b (0 : Nat)) = IntKind.wrap IntKind.i64 (byteAt b (0 : Nat)) ∧ Value.slice none (0 : Nat) (0 : Nat) = Value.slice none (0 : Nat) (0 : Nat) ∧ Value.string (ByteArray.mk (Array.mk [])) = Value.string (ByteArray.mk #[]) ∧ True)) := by kernel_rfl
theorem f_first (b : ByteArray) (P n a i : Int) (ok : Bool) (P' : Int) (n' : Nat) (q' : ByteArray) (rs' : Array Value) (Q0 : Int → Int → Int → Int → Prop) (Q1 : Int → Int → Int → Int → Nat → Array Value → Prop) : (fS0 b P n a i).vc (fA ok P' n' q' rs') (fN b Q0 Q1) =
    ((decide (i < n) = true → (decide (a ≥ (((ByteArray.size b) : Nat) : Int)) = true → ok = false ∧ (0 : Int) = (0 : Int) ∧ false = false ∧ True) ∧ (decide (a ≥ (((ByteArray.size b) : Nat) : Int)) = false → (((0 : Int) ≤ a ∧ a < (↑((ByteArray.size b)) : Int)) ∧ True) ∧ (decide (ari BinOp.add IntKind.i64 (ari BinOp.add IntKind.i64 a (1 : Int)) (ari BinOp.mul IntKind.i64 (6 : Int) (IntKind.wrap IntKind.i64 (byteAt b (Int.toNat a)))) > (((ByteArray.size b) : Nat) : Int)) = true → ok = false ∧ (0 : Int) = (0 : Int) ∧ false = false ∧ True) ∧ (decide (ari BinOp.add IntKind.i64 (ari BinOp.add IntKind.i64 a (1 : Int)) (ari BinOp.mul IntKind.i64 (6 : Int) (IntKind.wrap IntKind.i64 (byteAt b (Int.toNat a)))) > (((ByteArray.size b) : Nat) : Int)) = false → ((0 : Int) ≤ ari BinOp.add IntKind.i64 (ari BinOp.add IntKind.i64 a (1 : Int)) (ari BinOp.mul IntKind.i64 (6 : Int) (IntKind.wrap IntKind.i64 (byteAt b (Int.toNat a)))) ∧ (Int.toNat (ari BinOp.add IntKind.i64 (ari BinOp.add IntKind.i64 a (1 : Int)) (ari BinOp.mul IntKind.i64 (6 : Int) (IntKind.wrap IntKind.i64 (byteAt b (Int.toNat a))))) ≤ (ByteArray.size b)) ∧ (0 : Int) ≤ ari BinOp.add IntKind.i64 a (1 : Int) ∧ Int.toNat (ari BinOp.add IntKind.i64 a (1 : Int)) ≤ Int.toNat (ari BinOp.add IntKind.i64 (ari BinOp.add IntKind.i64 a (1 : Int)) (ari BinOp.mul IntKind.i64 (6 : Int) (IntKind.wrap IntKind.i64 (byteAt b (Int.toNat a))))) ∧ True) ∧ Q1 n (ari BinOp.add IntKind.i64 (ari BinOp.add IntKind.i64 a (1 : Int)) (ari BinOp.mul IntKind.i64 (6 : Int) (IntKind.wrap IntKind.i64 (byteAt b (Int.toNat a))))) (ari BinOp.add IntKind.i64 i (1 : Int)) P (1 : Nat) #[Value.string (ByteArray.extract b (Int.toNat (ari BinOp.add IntKind.i64 a (1 : Int))) (Int.toNat (ari BinOp.add IntKind.i64 (ari BinOp.add IntKind.i64 a (1 : Int)) (ari BinOp.mul IntKind.i64 (6 : Int) (IntKind.wrap IntKind.i64 (byteAt b (Int.toNat a)))))))] ∧ CallKind.normal = CallKind.normal ∧ TodoOk (ren 0 [(0, 0), (1, 1), (2, 3)]) fH0 fH0 ∧ Value.string b = Value.string b ∧ ari BinOp.add IntKind.i64 i (1 : Int) = ari BinOp.add IntKind.i64 i (1 : Int) ∧ n = n ∧ ari BinOp.add IntKind.i64 (ari BinOp.add IntKind.i64 a (1 : Int)) (ari BinOp.mul IntKind.i64 (6 : Int) (IntKind.wrap IntKind.i64 (byteAt b (Int.toNat a)))) = ari BinOp.add IntKind.i64 (ari BinOp.add IntKind.i64 a (1 : Int)) (ari BinOp.mul IntKind.i64 (6 : Int) (IntKind.wrap IntKind.i64 (byteAt b (Int.toNat a)))) ∧ (24 : Nat) = (24 : Nat) ∧ Value.slice none (0 : Nat) (0 : Nat) = Value.slice none (0 : Nat) (0 : Nat) ∧ Value.string (ByteArray.mk #[]) = Value.string (ByteArray.mk #[]) ∧ (24 : Nat) = (24 : Nat) ∧ P = P ∧ (1 : Nat) = (1 : Nat) ∧ Value.string (ByteArray.mk (Array.mk [])) = Value.string (ByteArray.mk (Array.mk [])) ∧ (9 : TypeId) = (9 : Nat) ∧ #[Value.string (ByteArray.extract b (Int.toNat (ari BinOp.add IntKind.i64 a (1 : Int))) (Int.toNat (ari BinOp.add IntKind.i64 (ari BinOp.add IntKind.i64 a (1 : Int)) (ari BinOp.mul IntKind.i64 (6 : Int) (IntKind.wrap IntKind.i64 (byteAt b (Int.toNat a)))))))] = #[Value.string (ByteArray.extract b (Int.toNat (ari BinOp.add IntKind.i64 a (1 : Int))) (Int.toNat (ari BinOp.add IntKind.i64 (ari BinOp.add IntKind.i64 a (1 : Int)) (ari BinOp.mul IntKind.i64 (6 : Int) (IntKind.wrap IntKind.i64 (byteAt b (Int.toNat a)))))))] ∧ True))) ∧ (decide (i < n) = false → ((0 : Int) ≤ a ∧ (Int.toNat a ≤ (ByteArray.size b)) ∧ True) ∧ ok = false ∧ (0 : Int) = (0 : Int) ∧ false = false ∧ True)) := by kernel_rfl
theorem f_step (b : ByteArray) (P n a i : Int) (k : Nat) (rs : Array Value) (ok : Bool) (P' : Int) (n' : Nat) (q' : ByteArray) (rs' : Array Value) (Q0 : Int → Int → Int → Int → Prop) (Q1 : Int → Int → Int → Int → Nat → Array Value → Prop) : (fS1 b P n a i k rs).vc (fA ok P' n' q' rs') (fN b Q0 Q1) =
    ((decide (i < n) = true → (decide (a ≥ (((ByteArray.size b) : Nat) : Int)) = true → ok = false ∧ (0 : Int) = (0 : Int) ∧ false = false ∧ True) ∧ (decide (a ≥ (((ByteArray.size b) : Nat) : Int)) = false → (((0 : Int) ≤ a ∧ a < (↑((ByteArray.size b)) : Int)) ∧ True) ∧ (decide (ari BinOp.add IntKind.i64 (ari BinOp.add IntKind.i64 a (1 : Int)) (ari BinOp.mul IntKind.i64 (6 : Int) (IntKind.wrap IntKind.i64 (byteAt b (Int.toNat a)))) > (((ByteArray.size b) : Nat) : Int)) = true → ok = false ∧ (0 : Int) = (0 : Int) ∧ false = false ∧ True) ∧ (decide (ari BinOp.add IntKind.i64 (ari BinOp.add IntKind.i64 a (1 : Int)) (ari BinOp.mul IntKind.i64 (6 : Int) (IntKind.wrap IntKind.i64 (byteAt b (Int.toNat a)))) > (((ByteArray.size b) : Nat) : Int)) = false → ((0 : Int) ≤ ari BinOp.add IntKind.i64 (ari BinOp.add IntKind.i64 a (1 : Int)) (ari BinOp.mul IntKind.i64 (6 : Int) (IntKind.wrap IntKind.i64 (byteAt b (Int.toNat a)))) ∧ (Int.toNat (ari BinOp.add IntKind.i64 (ari BinOp.add IntKind.i64 a (1 : Int)) (ari BinOp.mul IntKind.i64 (6 : Int) (IntKind.wrap IntKind.i64 (byteAt b (Int.toNat a))))) ≤ (ByteArray.size b)) ∧ (0 : Int) ≤ ari BinOp.add IntKind.i64 a (1 : Int) ∧ Int.toNat (ari BinOp.add IntKind.i64 a (1 : Int)) ≤ Int.toNat (ari BinOp.add IntKind.i64 (ari BinOp.add IntKind.i64 a (1 : Int)) (ari BinOp.mul IntKind.i64 (6 : Int) (IntKind.wrap IntKind.i64 (byteAt b (Int.toNat a))))) ∧ True) ∧ (((k + 1) * 16 ≤ (140737488355328 : Nat) ∧ k + 1 ≤ (140737488355328 : Nat)) ∧ k * 1 = Array.size rs ∧ True) ∧ Q1 n (ari BinOp.add IntKind.i64 (ari BinOp.add IntKind.i64 a (1 : Int)) (ari BinOp.mul IntKind.i64 (6 : Int) (IntKind.wrap IntKind.i64 (byteAt b (Int.toNat a))))) (ari BinOp.add IntKind.i64 i (1 : Int)) P (k + 1) (rs ++ #[Value.string (ByteArray.extract b (Int.toNat (ari BinOp.add IntKind.i64 a (1 : Int))) (Int.toNat (ari BinOp.add IntKind.i64 (ari BinOp.add IntKind.i64 a (1 : Int)) (ari BinOp.mul IntKind.i64 (6 : Int) (IntKind.wrap IntKind.i64 (byteAt b (Int.toNat a)))))))]) ∧ CallKind.normal = CallKind.normal ∧ TodoOk (ren 0 [(0, 0), (1, 1), (2, 4)]) fH0 fH0 ∧ Value.string b = Value.string b ∧ ari BinOp.add IntKind.i64 i (1 : Int) = ari BinOp.add IntKind.i64 i (1 : Int) ∧ n = n ∧ ari BinOp.add IntKind.i64 (ari BinOp.add IntKind.i64 a (1 : Int)) (ari BinOp.mul IntKind.i64 (6 : Int) (IntKind.wrap IntKind.i64 (byteAt b (Int.toNat a)))) = ari BinOp.add IntKind.i64 (ari BinOp.add IntKind.i64 a (1 : Int)) (ari BinOp.mul IntKind.i64 (6 : Int) (IntKind.wrap IntKind.i64 (byteAt b (Int.toNat a)))) ∧ (24 : Nat) = (24 : Nat) ∧ Value.slice none (0 : Nat) (0 : Nat) = Value.slice none (0 : Nat) (0 : Nat) ∧ Value.string (ByteArray.mk #[]) = Value.string (ByteArray.mk #[]) ∧ (24 : Nat) = (24 : Nat) ∧ P = P ∧ k + 1 = k + 1 ∧ Value.string (ByteArray.mk (Array.mk [])) = Value.string (ByteArray.mk (Array.mk [])) ∧ (9 : TypeId) = (9 : Nat) ∧ rs ++ #[Value.string (ByteArray.extract b (Int.toNat (ari BinOp.add IntKind.i64 a (1 : Int))) (Int.toNat (ari BinOp.add IntKind.i64 (ari BinOp.add IntKind.i64 a (1 : Int)) (ari BinOp.mul IntKind.i64 (6 : Int) (IntKind.wrap IntKind.i64 (byteAt b (Int.toNat a)))))))] = rs ++ #[Value.string (ByteArray.extract b (Int.toNat (ari BinOp.add IntKind.i64 a (1 : Int))) (Int.toNat (ari BinOp.add IntKind.i64 (ari BinOp.add IntKind.i64 a (1 : Int)) (ari BinOp.mul IntKind.i64 (6 : Int) (IntKind.wrap IntKind.i64 (byteAt b (Int.toNat a)))))))] ∧ True))) ∧ (decide (i < n) = false → ((0 : Int) ≤ a ∧ (Int.toNat a ≤ (ByteArray.size b)) ∧ True) ∧ (StrR rs (0 : Nat) k ∧ True) ∧ ((!mayS P (0 : Nat) k (ByteArray.size (ByteArray.extract b (Int.toNat a) ((ByteArray.size b)))) rs (celA (ByteArray.extract b (Int.toNat a) ((ByteArray.size b))))) = true → ok = false ∧ (0 : Int) = (0 : Int) ∧ false = false ∧ True) ∧ ((!mayS P (0 : Nat) k (ByteArray.size (ByteArray.extract b (Int.toNat a) ((ByteArray.size b)))) rs (celA (ByteArray.extract b (Int.toNat a) ((ByteArray.size b))))) = false → ok = true ∧ P' = P ∧ n' = k ∧ Value.string q' = Value.string (ByteArray.extract b (Int.toNat a) ((ByteArray.size b))) ∧ (9 : TypeId) = (9 : TypeId) ∧ rs' = rs ∧ True))) := by kernel_rfl
theorem f_none (b : ByteArray) (ok : Bool) (P : Int) (n : Nat) (q : ByteArray) (rs : Array Value) : (run EJn 1000 0 (fC b) M0).follow (fA ok P n q rs) (fun _ _ => False) [true] =
    (decide (((((ByteArray.size b) : Nat) : Int)) < (2 : Int)) = true ∧ ok = false ∧ (0 : Int) = (0 : Int) ∧ false = false ∧ True) := by kernel_rfl
theorem s2_start_t (P : Int) (n k : Nat) (P' : Int) (o n' : Nat) (q : ByteArray) (rs cs bs : Array Value) (ty tz tb : TypeId) (Q : Int → Prop) : (gR EV 3 (smC P n (smB true k) P' o n' q) (s2M true rs cs bs ty tz tb)).vc (boolR true) (s2N false true P n k P' o n' q rs cs bs ty tz tb Q) =
    ((((P != P') == false) = true → ((((↑n : Int) != (↑n' : Int)) == false) = true → ((0 : Nat) + k ≤ Array.size bs ∧ AllU8 (Array.extract bs (0 : Nat) ((0 : Nat) + k)).1 ∧ True) ∧ ((!ByteArray.toList (strOf (Array.toList (Array.extract bs (0 : Nat) ((0 : Nat) + k)))) == ByteArray.toList q) = true → false = true) ∧ ((!ByteArray.toList (strOf (Array.toList (Array.extract bs (0 : Nat) ((0 : Nat) + k)))) == ByteArray.toList q) = false → Q (0 : Int) ∧ CallKind.normal = CallKind.normal ∧ TodoOk (ren 3 [(3, 3), (4, 4)]) s2T0 s2T0 ∧ P = P ∧ n = n ∧ k = k ∧ P' = P' ∧ o = o ∧ n' = n' ∧ Value.string q = Value.string q ∧ P = P ∧ Value.string (strOf (Array.toList (Array.extract bs (0 : Nat) ((0 : Nat) + k)))) = Value.string (strOf (Array.toList (Array.extract bs (0 : Nat) ((0 : Nat) + k)))) ∧ ((↑n : Int) != (↑n' : Int)) = ((↑n : Int) != (↑n' : Int)) ∧ (0 : Int) = (0 : Int) ∧ P' = P' ∧ (↑n' : Int) = (↑n' : Int) ∧ Value.string q = Value.string q ∧ n = n ∧ o = o ∧ n' = n' ∧ (P != P') = (P != P') ∧ ((↑n : Int) != (↑n' : Int)) = ((↑n : Int) != (↑n' : Int)) ∧ ((match mkSB (false && false) !ByteArray.toList (strOf (Array.toList (Array.extract bs (0 : Nat) ((0 : Nat) + k)))) == ByteArray.toList q with | SB.l b => b | SB.o b => b) = match mkSB (false && false) !ByteArray.toList (strOf (Array.toList (Array.extract bs (0 : Nat) ((0 : Nat) + k)))) == ByteArray.toList q with | SB.l b => b | SB.o b => b) ∧ (↑n : Int) = (↑n : Int) ∧ k = k ∧ ty = ty ∧ rs = rs ∧ tz = tz ∧ cs = cs ∧ (32 : Nat) = (32 : Nat) ∧ P = P ∧ n = n ∧ k = k ∧ tb = tb ∧ bs = bs ∧ (24 : Nat) = (24 : Nat) ∧ P' = P' ∧ o = o ∧ n' = n' ∧ Value.string q = Value.string q ∧ True)) ∧ ((((↑n : Int) != (↑n' : Int)) == false) = false → false = true)) ∧ (((P != P') == false) = false → false = true)) := by kernel_rfl
theorem s2_start_f (P : Int) (n k : Nat) (P' : Int) (o n' : Nat) (q : ByteArray) (rs cs bs : Array Value) (ty tz tb : TypeId) (Q : Int → Prop) : (gR EV 2 (smC P n (smB false k) P' o n' q) (s2M false rs cs bs ty tz tb)).vc (boolR true) (s2N false false P n k P' o n' q rs cs bs ty tz tb Q) =
    ((((P != P') == false) = true → ((((↑n : Int) != (↑n' : Int)) == false) = true → ((!ByteArray.toList ByteArray.empty == ByteArray.toList q) = true → false = true) ∧ ((!ByteArray.toList ByteArray.empty == ByteArray.toList q) = false → Q (0 : Int) ∧ CallKind.normal = CallKind.normal ∧ TodoOk (ren 2 [(2, 2), (3, 3)]) s2T0 s2T0 ∧ P = P ∧ n = n ∧ Value.slice none (0 : Nat) (0 : Nat) = Value.slice none (0 : Nat) (0 : Nat) ∧ P' = P' ∧ o = o ∧ n' = n' ∧ Value.string q = Value.string q ∧ P = P ∧ Value.string ByteArray.empty = Value.string ByteArray.empty ∧ ((↑n : Int) != (↑n' : Int)) = ((↑n : Int) != (↑n' : Int)) ∧ (0 : Int) = (0 : Int) ∧ P' = P' ∧ (↑n' : Int) = (↑n' : Int) ∧ Value.string q = Value.string q ∧ n = n ∧ o = o ∧ n' = n' ∧ (P != P') = (P != P') ∧ ((↑n : Int) != (↑n' : Int)) = ((↑n : Int) != (↑n' : Int)) ∧ ((match mkSB (true && false) !ByteArray.toList ByteArray.empty == ByteArray.toList q with | SB.l b => b | SB.o b => b) = match mkSB (true && false) !ByteArray.toList ByteArray.empty == ByteArray.toList q with | SB.l b => b | SB.o b => b) ∧ (↑n : Int) = (↑n : Int) ∧ Value.slice none (0 : Nat) (0 : Nat) = Value.slice none (0 : Nat) (0 : Nat) ∧ ty = ty ∧ rs = rs ∧ tz = tz ∧ cs = cs ∧ (24 : Nat) = (24 : Nat) ∧ P' = P' ∧ o = o ∧ n' = n' ∧ Value.string q = Value.string q ∧ (32 : Nat) = (32 : Nat) ∧ P = P ∧ n = n ∧ Value.slice none (0 : Nat) (0 : Nat) = Value.slice none (0 : Nat) (0 : Nat) ∧ True)) ∧ ((((↑n : Int) != (↑n' : Int)) == false) = false → false = true)) ∧ (((P != P') == false) = false → false = true)) := by kernel_rfl
theorem s2_step_t (P : Int) (n k : Nat) (P' : Int) (o n' : Nat) (q : ByteArray) (rs cs bs : Array Value) (ty tz tb : TypeId) (i : Int) (Q : Int → Prop) : (gS EV 3 (smC P n (smB true k) P' o n' q) (s2M true rs cs bs ty tz tb) [(5, i64 (.o i))] []).vc (boolR true) (s2N true true P n k P' o n' q rs cs bs ty tz tb Q) =
    ((decide (i < (↑n : Int)) = true → (((0 : Int) ≤ i ∧ i < (↑n : Int)) ∧ True) ∧ (rs[(0 : Nat) + Int.toNat i * 1]? = some (Value.string (strAt rs ((0 : Nat) + Int.toNat i * 1))) ∧ True) ∧ (((0 : Int) ≤ i ∧ i < (↑n' : Int)) ∧ True) ∧ (cs[o + Int.toNat i * 1]? = some (Value.string (strAt cs (o + Int.toNat i * 1))) ∧ True) ∧ ((!ByteArray.toList (strAt rs ((0 : Nat) + Int.toNat i * 1)) == ByteArray.toList (strAt cs (o + Int.toNat i * 1))) = true → false = true) ∧ ((!ByteArray.toList (strAt rs ((0 : Nat) + Int.toNat i * 1)) == ByteArray.toList (strAt cs (o + Int.toNat i * 1))) = false → Q (ari BinOp.add IntKind.i64 i (1 : Int)) ∧ CallKind.normal = CallKind.normal ∧ TodoOk (ren 3 [(3, 3), (4, 4)]) s2H0 s2H0 ∧ P = P ∧ n = n ∧ k = k ∧ P' = P' ∧ o = o ∧ n' = n' ∧ Value.string q = Value.string q ∧ P = P ∧ Value.string (strOf (Array.toList (Array.extract bs (0 : Nat) ((0 : Nat) + k)))) = Value.string (strOf (Array.toList (Array.extract bs (0 : Nat) ((0 : Nat) + k)))) ∧ ((↑n : Int) != (↑n' : Int)) = ((↑n : Int) != (↑n' : Int)) ∧ ari BinOp.add IntKind.i64 i (1 : Int) = ari BinOp.add IntKind.i64 i (1 : Int) ∧ P' = P' ∧ (↑n' : Int) = (↑n' : Int) ∧ Value.string q = Value.string q ∧ n = n ∧ o = o ∧ n' = n' ∧ (P != P') = (P != P') ∧ ((↑n : Int) != (↑n' : Int)) = ((↑n : Int) != (↑n' : Int)) ∧ ((match mkSB (false && false) !ByteArray.toList (strOf (Array.toList (Array.extract bs (0 : Nat) ((0 : Nat) + k)))) == ByteArray.toList q with | SB.l b => b | SB.o b => b) = match mkSB (false && false) !ByteArray.toList (strOf (Array.toList (Array.extract bs (0 : Nat) ((0 : Nat) + k)))) == ByteArray.toList q with | SB.l b => b | SB.o b => b) ∧ (↑n : Int) = (↑n : Int) ∧ k = k ∧ ty = ty ∧ rs = rs ∧ tz = tz ∧ cs = cs ∧ (32 : Nat) = (32 : Nat) ∧ P = P ∧ n = n ∧ k = k ∧ tb = tb ∧ bs = bs ∧ (24 : Nat) = (24 : Nat) ∧ P' = P' ∧ o = o ∧ n' = n' ∧ Value.string q = Value.string q ∧ True)) ∧ (decide (i < (↑n : Int)) = false → true = true)) := by kernel_rfl
theorem s2_step_f (P : Int) (n k : Nat) (P' : Int) (o n' : Nat) (q : ByteArray) (rs cs bs : Array Value) (ty tz tb : TypeId) (i : Int) (Q : Int → Prop) : (gS EV 2 (smC P n (smB false k) P' o n' q) (s2M false rs cs bs ty tz tb) [(5, i64 (.o i))] []).vc (boolR true) (s2N true false P n k P' o n' q rs cs bs ty tz tb Q) =
    ((decide (i < (↑n : Int)) = true → (((0 : Int) ≤ i ∧ i < (↑n : Int)) ∧ True) ∧ (rs[(0 : Nat) + Int.toNat i * 1]? = some (Value.string (strAt rs ((0 : Nat) + Int.toNat i * 1))) ∧ True) ∧ (((0 : Int) ≤ i ∧ i < (↑n' : Int)) ∧ True) ∧ (cs[o + Int.toNat i * 1]? = some (Value.string (strAt cs (o + Int.toNat i * 1))) ∧ True) ∧ ((!ByteArray.toList (strAt rs ((0 : Nat) + Int.toNat i * 1)) == ByteArray.toList (strAt cs (o + Int.toNat i * 1))) = true → false = true) ∧ ((!ByteArray.toList (strAt rs ((0 : Nat) + Int.toNat i * 1)) == ByteArray.toList (strAt cs (o + Int.toNat i * 1))) = false → Q (ari BinOp.add IntKind.i64 i (1 : Int)) ∧ CallKind.normal = CallKind.normal ∧ TodoOk (ren 2 [(2, 2), (3, 3)]) s2H0 s2H0 ∧ P = P ∧ n = n ∧ Value.slice none (0 : Nat) (0 : Nat) = Value.slice none (0 : Nat) (0 : Nat) ∧ P' = P' ∧ o = o ∧ n' = n' ∧ Value.string q = Value.string q ∧ P = P ∧ Value.string ByteArray.empty = Value.string ByteArray.empty ∧ ((↑n : Int) != (↑n' : Int)) = ((↑n : Int) != (↑n' : Int)) ∧ ari BinOp.add IntKind.i64 i (1 : Int) = ari BinOp.add IntKind.i64 i (1 : Int) ∧ P' = P' ∧ (↑n' : Int) = (↑n' : Int) ∧ Value.string q = Value.string q ∧ n = n ∧ o = o ∧ n' = n' ∧ (P != P') = (P != P') ∧ ((↑n : Int) != (↑n' : Int)) = ((↑n : Int) != (↑n' : Int)) ∧ ((match mkSB (true && false) !ByteArray.toList ByteArray.empty == ByteArray.toList q with | SB.l b => b | SB.o b => b) = match mkSB (true && false) !ByteArray.toList ByteArray.empty == ByteArray.toList q with | SB.l b => b | SB.o b => b) ∧ (↑n : Int) = (↑n : Int) ∧ Value.slice none (0 : Nat) (0 : Nat) = Value.slice none (0 : Nat) (0 : Nat) ∧ ty = ty ∧ rs = rs ∧ tz = tz ∧ cs = cs ∧ (24 : Nat) = (24 : Nat) ∧ P' = P' ∧ o = o ∧ n' = n' ∧ Value.string q = Value.string q ∧ (32 : Nat) = (32 : Nat) ∧ P = P ∧ n = n ∧ Value.slice none (0 : Nat) (0 : Nat) = Value.slice none (0 : Nat) (0 : Nat) ∧ True)) ∧ (decide (i < (↑n : Int)) = false → true = true)) := by kernel_rfl
end Go.Proofs.Ytapkbgccbmjfaaa
/- Of journal: the reference's Decode answers as it is told; Same of two rows of one's own. No condition. -/
namespace Go.Proofs.Ytapkbgccbmjfaaa
set_option linter.unusedSectionVars false
set_option linter.unusedVariables false
set_option maxRecDepth 100000
/-! The reference's May, as a contract. -/
theorem fnU9 : E0.fn 14 = some Try.f14 := by kernel_rfl
theorem bodyU9 : Try.f14.body = some (Try.f14.body.getD .skip) := by kernel_rfl
theorem m9M0 {P : Int} {x : SC} {q : ByteArray} (hx : x = nilC ∨ x = .f .e0) (m : SMem) : Con E0 14 [refV P x q] m (.ret (sB (.l false)) m) := by
  refine Con.ro E0_ok (l := [refV P x q]) (l' := [refV P x q]) (ms := M0) (m := m) (q := []) (A := boolR false) fnU9 bodyU9 rfl (fun i => i) (fun i b hb => by
    have hb : (Tr.nil : Tr SBlk).get i = some b := hb
    rw [Tr.get_nil] at hb; cases hb) (fun R vs ha => ?_) (fun _ => m9_none P q x hx) (fun s m' R R' v h hv => ?_)
  · rcases hx with rfl | rfl
    · match vs, ha with
      | [v], ha => exact ⟨agg3 ha.1 (fun _ h => h) (fun _ h => h) (fun _ h => h), trivial⟩
    · match vs, ha with
      | [v], ha => exact ⟨agg3 ha.1 (fun _ h => h) (fun _ h => h) (fun _ h => h), trivial⟩
  · unfold boolR at h
    split at h
    · rename_i x
      have hv : v = .bool x.den := hv
      rw [h] at hv
      exact hv
    · exact h.elim
theorem m9T_ok {m : SMem} {x : SV} {t : Tree} (h : m9T m x = some t) : Con E0 14 [x] m t := by
  unfold m9T at h
  split at h
  · rename_i P i o n c q
    split at h
    · rename_i v cs hr
      cases h
      obtain ⟨ty, wr, hb⟩ := rowV_of hr
      refine Con.ro E0_ok (l' := [refV P (slC 0 o.den n.den) q]) (ms := prM v cs ty) (A := boolR (mayS P o.den n.den q.size cs (celA q))) fnU9 bodyU9 rfl (fun _ => i) ?_ ?_ (fun hq => m9_good P o.den n.den q cs ty v (hq _ (List.mem_cons_self ..))) (fun _ _ _ _ _ => boolR_con)
      · intro j b hj
        obtain ⟨rfl, rfl⟩ := prM_get hj
        exact ⟨Nat.zero_lt_one, rfl, _, hb, rfl, fun R cs' h => prA_pull R cs' h⟩
      · intro R vs ha
        match vs, ha with
        | [u], ha => exact ⟨agg3 ha.1 (fun _ h => h) (fun _ h => sl_pull h Nat.zero_lt_one rfl rfl) (fun _ h => h), trivial⟩
    · cases h
  · cases h
    exact m9M0 (.inr rfl) m
  · cases h
    exact m9M0 (.inl rfl) m
  · cases h
theorem conJ_ok (g : FuncId) (l : List SV) (m : SMem) (t : Tree) (h : conJ g l m = some t) : Con E0 g l m t := by
  unfold conJ at h
  split at h
  · exact m9T_ok h
  · cases h
theorem EJ_ok : EnvOk EJ := EnvOk.with E0_ok _ _ conJ_ok
theorem EJn_ok : EnvOk EJn := EnvOk.with E0_ok _ _ conJ_ok
/-! Decode. -/
theorem fT0_ok : TodoOk (ren 0 [(0, 0), (1, 1)]) fT0 fT0 := TodoOk.same (by kernel_rfl)
theorem fH0_ok (i : Nat) : TodoOk (ren 0 [(0, 0), (1, 1), (2, i)]) fH0 fH0 := TodoOk.same (by kernel_rfl)
theorem fN_good {b : ByteArray} {A : SV → SMem → Prop} {Q1 : Int → Int → Int → Int → Nat → Array Value → Prop}
    (hg1 : ∀ n a i P k rs, Q1 n a i P k rs → Good EJ.P A 0 (headF (fF b n a i)) (fM1 b P k rs)) {fs : List SFr} {m : SMem} (hb : fN b (fun _ _ _ _ => False) Q1 fs m) : Good EJ.P A 0 fs m := by
  unfold fN at hb
  generalize fF b = F at hb hg1
  generalize fM0 b = M at hb
  generalize fM1 b = M1 at hb hg1
  split at hb
  · split at hb
    · exact hb.1.elim
    · split at hb
      · exact Good.of_sub hb.2 (hg1 _ _ _ _ _ _ hb.1)
      · exact hb.elim
    · exact hb.elim
  · exact hb.elim
theorem fM0_next (b : ByteArray) (P : Int) : idFrom 0 (fM0 b P).next = idFrom 0 2 := by kernel_rfl
theorem fN0_good {b : ByteArray} {A : SV → SMem → Prop} {Q0 : Int → Int → Int → Int → Prop} (hg0 : ∀ n a i P, Q0 n a i P → Good EJ.P A 0 (headF (fF b n a i)) (fM0 b P)) {fs : List SFr} {m : SMem} (hb : fN0 b Q0 fs m) : Good EJ.P A 0 fs m := by
  have he := fM0_next b
  unfold fN0 at hb
  generalize fF b = F at hb hg0
  generalize fM0 b = M at hb hg0 he
  split at hb
  · split at hb
    · rename_i n a i P _ _ _ _ _
      rw [← he P] at hb
      exact Good.of_sub hb.2 (Good.head (hg0 _ _ _ _ hb.1))
    · exact hb.elim
  · exact hb.elim
/-- What it shows, by its bytes. -/
def fAb (b : ByteArray) : SV → SMem → Prop := fA (okD b) (byteAt b 0) (numB b) (leftB b) (rowP b (numB b))
theorem prg_size' (b : ByteArray) (j : Nat) : (prg b j).size ≤ 1530 := by
  have := byteAt_range b (posB b j)
  unfold prg
  rw [ext_size, posB]
  omega
theorem rowP_strR (b : ByteArray) {j : Nat} (hj : j < 9223372036854775807) : StrR (rowP b j) 0 j := ⟨hj, fun t ht => by
  rw [Nat.zero_add]
  obtain ⟨h1, h2⟩ := rowP_str (b := b) ht
  have := prg_size' b t
  exact ⟨h2, by rw [h1]; omega⟩⟩
section
variable (b : ByteArray) (hb : b.size < 140737488355328) (h2 : 2 ≤ b.size)
include hb h2
theorem f_pos {j : Nat} (hp : posB b j < b.size) : ari BinOp.add IntKind.i64 ((posB b j : Nat) : Int) 1 = ((posB b j + 1 : Nat) : Int) ∧ ari BinOp.add IntKind.i64 ((posB b j + 1 : Nat) : Int) (ari BinOp.mul IntKind.i64 6 (IntKind.wrap IntKind.i64 (byteAt b (posB b j)))) = ((posB b (j + 1) : Nat) : Int) := by
  have hr := byteAt_range b (posB b j)
  refine ⟨by rw [ari_add]; exact i64_nat (by omega), ?_⟩
  rw [byte_mul hr, ari_add, posB, Go.IntWalk.i64_in _ (by omega)]
  omega
theorem f_round : ∀ (K j : Nat), numB b - j < K → 1 ≤ j → j ≤ numB b → fitsB b j = true → Good EJ.P (fAb b) 0 (headF (fF b (numB b : Int) (posB b j : Int) (j : Int))) (fM1 b (byteAt b 0) j (rowP b j)) := by
  intro K
  induction K with
  | zero => intro j h; omega
  | succ K ih =>
    intro j hk hj1 hj hf
    have hn255 : numB b ≤ 255 := (numB_le b).1
    have hp := pos_le h2 hf
    refine past_vc EJ_ok 1000 (f_step b (byteAt b 0) (numB b : Int) (posB b j : Int) (j : Int) j (rowP b j) _ _ _ _ _ (fun _ _ _ _ => False) (fun n' a' i' P' k' rs' => ∃ t : Nat, n' = (numB b : Int) ∧ a' = (posB b t : Int) ∧ i' = t ∧ P' = byteAt b 0 ∧ k' = t ∧ rs' = rowP b t ∧ numB b - t < K ∧ 1 ≤ t ∧ t ≤ numB b ∧ fitsB b t = true)) ?_ (fun _ _ h => h)
      (fun fs m hb' => fN_good (fun n' a' i' P' k' rs' ⟨t, e1, e2, e3, e4, e5, e6, q1, q2, q3, q4⟩ => by rw [e1, e2, e3, e4, e5, e6]; exact ih t q1 q2 q3 q4) hb')
    rw [Int.toNat_natCast]
    refine ⟨fun h => ⟨fun h1 => ?_, fun h1 => ?_⟩, fun h => ?_⟩
    · have hlt : j < numB b := by have := of_decide_eq_true h; omega
      have h1 := of_decide_eq_true h1
      exact ⟨okD_no hlt (by unfold fitsB; rw [hf, Bool.true_and]; exact decide_eq_false (by omega)), rfl, rfl, trivial⟩
    · have hlt : j < numB b := by have := of_decide_eq_true h; omega
      have h1 := of_decide_eq_false h1
      have hpj : posB b j < b.size := by omega
      obtain ⟨a1, a2⟩ := f_pos b hb h2 hpj
      rw [a1, a2, Int.toNat_natCast, Int.toNat_natCast]
      refine ⟨⟨⟨by omega, by omega⟩, trivial⟩, fun h3 => ?_, fun h3 => ?_⟩
      · have h3 := of_decide_eq_true h3
        exact ⟨okD_no hlt (by unfold fitsB; rw [hf, Bool.true_and]; exact decide_eq_false (by omega)), rfl, rfl, trivial⟩
      · have h3 := of_decide_eq_false h3
        have hf' : fitsB b (j + 1) = true := by
          unfold fitsB
          rw [hf, Bool.true_and]
          exact decide_eq_true ⟨hpj, by omega⟩
        have eA : ari BinOp.add IntKind.i64 (j : Int) 1 = ((j + 1 : Nat) : Int) := by rw [ari_add, i64_nat (show j < 9223372036854775807 by omega)]
        rw [eA]
        refine ⟨⟨by omega, by omega, by omega, by rw [posB]; omega, trivial⟩, ⟨⟨by omega, by omega⟩, by rw [rowP_size]; omega, trivial⟩, ⟨j + 1, rfl, rfl, rfl, rfl, rfl, rfl, by omega, by omega, by omega, hf'⟩, ?_⟩
        repeat' first | exact trivial | exact fH0_ok _ | apply And.intro | exact rfl
    · have hjn : j = numB b := by have := of_decide_eq_false h; omega
      have hok : okD b = mayS (byteAt b 0) 0 (numB b) (leftB b).size (rowP b (numB b)) (celA (leftB b)) := by
        unfold okD
        rw [decide_eq_true h2, ← hjn, hf]
        rfl
      have hL : b.extract (posB b j) b.size = leftB b := by rw [hjn]; rfl
      rw [hL, hjn]
      refine ⟨⟨by omega, by rw [← hjn]; exact hp, trivial⟩, ⟨rowP_strR b (by omega), trivial⟩, fun hm => ⟨?_, rfl, rfl, trivial⟩, fun hm => ⟨?_, ?_⟩⟩
      · rw [hok]
        simpa using hm
      · rw [hok]
        simpa using hm
      · repeat' first | exact trivial | apply And.intro | exact rfl
theorem f_first' : Good EJ.P (fAb b) 0 (headF (fF b (numB b : Int) (posB b 0 : Int) 0)) (fM0 b (byteAt b 0)) := by
  have hn255 : numB b ≤ 255 := (numB_le b).1
  have hp : posB b 0 ≤ b.size := h2
  have hf : fitsB b 0 = true := rfl
  refine past_vc EJ_ok 1000 (f_first b (byteAt b 0) (numB b : Int) (posB b 0 : Int) 0 _ _ _ _ _ (fun _ _ _ _ => False) (fun n' a' i' P' k' rs' => n' = (numB b : Int) ∧ a' = (posB b 1 : Int) ∧ i' = ((1 : Nat) : Int) ∧ P' = byteAt b 0 ∧ k' = 1 ∧ rs' = rowP b 1 ∧ 1 ≤ numB b ∧ fitsB b 1 = true)) ?_ (fun _ _ h => h)
    (fun fs m hb' => fN_good (fun n' a' i' P' k' rs' ⟨e1, e2, e3, e4, e5, e6, q1, q2⟩ => by rw [e1, e2, e3, e4, e5, e6]; exact f_round b hb h2 (numB b + 1) 1 (by omega) (by omega) q1 q2) hb')
  rw [Int.toNat_natCast]
  refine ⟨fun h => ⟨fun h1 => ?_, fun h1 => ?_⟩, fun h => ?_⟩
  · have hlt : 0 < numB b := by have := of_decide_eq_true h; omega
    have h1 := of_decide_eq_true h1
    exact ⟨okD_no hlt (by unfold fitsB; rw [hf, Bool.true_and]; exact decide_eq_false (show ¬ (posB b 0 < b.size ∧ posB b 1 ≤ b.size) from by omega)), rfl, rfl, trivial⟩
  · have hlt : 0 < numB b := by have := of_decide_eq_true h; omega
    have h1 := of_decide_eq_false h1
    have hpj : posB b 0 < b.size := by omega
    obtain ⟨a1, a2⟩ := f_pos b hb h2 hpj
    have a2 : ari BinOp.add IntKind.i64 ((posB b 0 + 1 : Nat) : Int) (ari BinOp.mul IntKind.i64 6 (IntKind.wrap IntKind.i64 (byteAt b (posB b 0)))) = ((posB b 1 : Nat) : Int) := a2
    have hpp : posB b 1 = posB b 0 + 1 + 6 * (byteAt b (posB b 0)).toNat := rfl
    rw [a1, a2, Int.toNat_natCast, Int.toNat_natCast]
    refine ⟨⟨⟨by omega, by omega⟩, trivial⟩, fun h3 => ?_, fun h3 => ?_⟩
    · have h3 := of_decide_eq_true h3
      exact ⟨okD_no hlt (by unfold fitsB; rw [hf, Bool.true_and]; exact decide_eq_false (show ¬ (posB b 0 < b.size ∧ posB b 1 ≤ b.size) from by omega)), rfl, rfl, trivial⟩
    · have h3 := of_decide_eq_false h3
      have hf' : fitsB b 1 = true := by
        unfold fitsB
        rw [hf, Bool.true_and]
        exact decide_eq_true (show posB b 0 < b.size ∧ posB b 1 ≤ b.size from ⟨hpj, by omega⟩)
      have eA : ari BinOp.add IntKind.i64 (0 : Int) 1 = ((1 : Nat) : Int) := by rw [ari_add]; exact i64_nat (k := 0) (by omega)
      rw [eA]
      have hrow : #[Value.string (b.extract (posB b 0 + 1) (posB b 1))] = rowP b 1 := by
        show _ = #[] ++ #[Value.string (prg b 0)]
        rw [Array.empty_append]
        rfl
      refine ⟨⟨by omega, by omega, by omega, by omega, trivial⟩, ⟨rfl, rfl, rfl, rfl, rfl, hrow, by omega, hf'⟩, ?_⟩
      repeat' first | exact trivial | exact fH0_ok _ | apply And.intro | exact rfl
  · have h0 : numB b = 0 := by have := of_decide_eq_false h; omega
    have hno : okD b = false := by
      unfold okD mayS
      rw [decide_eq_false (p := 1 ≤ byteAt b 0 ∧ byteAt b 0 ≤ 64 ∧ 1 ≤ numB b ∧ numB b ≤ 8 ∧ (leftB b).size ≤ 4000) (by omega)]
      simp
    exact ⟨⟨by omega, hp, trivial⟩, hno, rfl, rfl, trivial⟩
theorem f_two : Good Try.prog (fAb b) 0 (fC b) M0 := by
  refine run_vc EJ_ok 1000 (f_start b _ _ _ _ _ (fun n a i P => n = (numB b : Int) ∧ a = (posB b 0 : Int) ∧ i = 0 ∧ P = byteAt b 0)) ?_ (fun _ _ h => h)
    (fun fs m hb' => fN0_good (fun n a i P ⟨e1, e2, e3, e4⟩ => by rw [e1, e2, e3, e4]; exact f_first' b hb h2) hb')
  have r0 := byteAt_range b 0
  have r1 := byteAt_range b 1
  refine ⟨fun h => ?_, fun _ => ⟨⟨⟨by omega, by omega⟩, trivial⟩, ⟨⟨by omega, by omega⟩, trivial⟩, ⟨?_, rfl, rfl, Go.IntWalk.i64_in _ (by omega)⟩, ?_⟩⟩
  · have := of_decide_eq_true h
    omega
  · rw [Go.IntWalk.i64_in _ (by omega)]
    exact (numB_le b).2.symm
  · repeat' first | exact trivial | exact fT0_ok | apply And.intro | exact rfl
end
theorem f_small (b : ByteArray) (h2 : ¬ 2 ≤ b.size) : Good Try.prog (fAb b) 0 (fC b) M0 := by
  have hno : okD b = false := by
    unfold okD
    rw [decide_eq_false h2]
    rfl
  refine run_way EJn_ok 1000 (f_none b _ _ _ _ _) ?_ (fun _ _ h => h) (fun _ _ h => h.elim)
  exact ⟨decide_eq_true (by omega), hno, rfl, rfl, trivial⟩
theorem f_every (b : ByteArray) (hb : b.size < 140737488355328) : Good Try.prog (fAb b) 0 (fC b) M0 := by
  by_cases h2 : 2 ≤ b.size
  · exact f_two b hb h2
  · exact f_small b h2
/-! Same. -/
theorem s2T0_3 : TodoOk (ren 3 [(3, 3), (4, 4)]) s2T0 s2T0 := TodoOk.same (by kernel_rfl)
theorem s2T0_2 : TodoOk (ren 2 [(2, 2), (3, 3)]) s2T0 s2T0 := TodoOk.same (by kernel_rfl)
theorem s2H0_3 : TodoOk (ren 3 [(3, 3), (4, 4)]) s2H0 s2H0 := TodoOk.same (by kernel_rfl)
theorem s2H0_2 : TodoOk (ren 2 [(2, 2), (3, 3)]) s2H0 s2H0 := TodoOk.same (by kernel_rfl)
theorem s2N_good {h w : Bool} {P P' : Int} {n k o n' : Nat} {q : ByteArray} {rs cs bs : Array Value} {ty tz tb : TypeId} {A : SV → SMem → Prop} {Q : Int → Prop} (hg : ∀ i, Q i → Good EV.P A (smb w) (gH EV (smb w) (smC P n (smB w k) P' o n' q) (s2M w rs cs bs ty tz tb) [(5, i64 (.o i))]) (gM EV (smb w) (smC P n (smB w k) P' o n' q) (s2M w rs cs bs ty tz tb) [])) {fs : List SFr} {m : SMem} (hb : s2N h w P n k P' o n' q rs cs bs ty tz tb Q fs m) : Good EV.P A (smb w) fs m := by
  unfold s2N at hb
  split at hb
  · split at hb
    · exact gN_good hb.2 (hg _ hb.1)
    · exact hb.elim
  · exact hb.elim
section
variable (P : Int) (n k o : Nat) (q : ByteArray) (rs cs bs : Array Value) (ty tz tb : TypeId)
theorem s2_round_t (hR : RowEq rs cs o n) : ∀ (K j : Nat), n - j < K → j ≤ n → Good EV.P (boolR true) 3 (gH EV 3 (smC P n (smB true k) P o n q) (s2M true rs cs bs ty tz tb) [(5, i64 (.o j))]) (gM EV 3 (smC P n (smB true k) P o n q) (s2M true rs cs bs ty tz tb) []) := by
  intro K
  induction K with
  | zero => intro j h; omega
  | succ K ih =>
    intro j hk hj
    refine past_vc EV_ok 1000 (s2_step_t P n k P o n q rs cs bs ty tz tb j (fun i' => ∃ t : Nat, i' = t ∧ n - t < K ∧ t ≤ n)) ?_ (fun _ _ h => h)
      (fun fs m hb => s2N_good (w := true) (fun i' ⟨t, e, k1, k2⟩ => by rw [e]; exact ih t k1 k2) hb)
    have hn := hR.1
    rw [Int.toNat_natCast, Nat.mul_one, Nat.zero_add]
    refine ⟨fun h => ?_, fun h => rfl⟩
    have hlt : j < n := by simpa using h
    obtain ⟨i1, i2, i3⟩ := hR.2 j hlt
    refine ⟨⟨⟨by omega, by omega⟩, trivial⟩, ⟨i1, trivial⟩, ⟨⟨by omega, by omega⟩, trivial⟩, ⟨i2, trivial⟩, fun hb => ?_, fun hb => ?_⟩
    · rw [i3] at hb
      simp at hb
    · rw [ari_add, i64_nat (show j < 9223372036854775807 by omega)]
      refine ⟨⟨j + 1, rfl, by omega, by omega⟩, ?_⟩
      repeat' first | exact trivial | exact s2H0_3 | apply And.intro | exact rfl
theorem s2_good_t (hR : RowEq rs cs o n) (hP : PickEq true k bs q) : Good Try.prog (boolR true) 3 (smC P n (smB true k) P o n q) (s2M true rs cs bs ty tz tb) := by
  have hP : k ≤ bs.size ∧ AllU8 (bs.extract 0 k).toList ∧ strOf (bs.extract 0 k).toList = q := hP
  refine run_vc EV_ok 1000 (s2_start_t P n k P o n q rs cs bs ty tz tb (fun i => i = ((0 : Nat) : Int))) ?_ (fun _ _ h => h)
    (fun fs m hb => s2N_good (w := true) (fun i e => by rw [e]; exact s2_round_t P n k o q rs cs bs ty tz tb hR (n + 1) 0 (by omega) (by omega)) hb)
  · skip
    refine ⟨fun _ => ⟨fun _ => ⟨⟨by omega, by rw [Nat.zero_add]; exact hP.2.1, trivial⟩, fun h => ?_, fun _ => ?_⟩, fun h => ?_⟩, fun h => ?_⟩
    · rw [Nat.zero_add, hP.2.2] at h
      simp at h
    · repeat' first | exact trivial | exact s2T0_3 | apply And.intro | exact rfl
    · simp at h
    · simp at h
theorem s2_round_f (hR : RowEq rs cs o n) : ∀ (K j : Nat), n - j < K → j ≤ n → Good EV.P (boolR true) 2 (gH EV 2 (smC P n (smB false k) P o n q) (s2M false rs cs bs ty tz tb) [(5, i64 (.o j))]) (gM EV 2 (smC P n (smB false k) P o n q) (s2M false rs cs bs ty tz tb) []) := by
  intro K
  induction K with
  | zero => intro j h; omega
  | succ K ih =>
    intro j hk hj
    refine past_vc EV_ok 1000 (s2_step_f P n k P o n q rs cs bs ty tz tb j (fun i' => ∃ t : Nat, i' = t ∧ n - t < K ∧ t ≤ n)) ?_ (fun _ _ h => h)
      (fun fs m hb => s2N_good (w := false) (fun i' ⟨t, e, k1, k2⟩ => by rw [e]; exact ih t k1 k2) hb)
    have hn := hR.1
    rw [Int.toNat_natCast, Nat.mul_one, Nat.zero_add]
    refine ⟨fun h => ?_, fun h => rfl⟩
    have hlt : j < n := by simpa using h
    obtain ⟨i1, i2, i3⟩ := hR.2 j hlt
    refine ⟨⟨⟨by omega, by omega⟩, trivial⟩, ⟨i1, trivial⟩, ⟨⟨by omega, by omega⟩, trivial⟩, ⟨i2, trivial⟩, fun hb => ?_, fun hb => ?_⟩
    · rw [i3] at hb
      simp at hb
    · rw [ari_add, i64_nat (show j < 9223372036854775807 by omega)]
      refine ⟨⟨j + 1, rfl, by omega, by omega⟩, ?_⟩
      repeat' first | exact trivial | exact s2H0_2 | apply And.intro | exact rfl
theorem s2_good_f (hR : RowEq rs cs o n) (hP : PickEq false k bs q) : Good Try.prog (boolR true) 2 (smC P n (smB false k) P o n q) (s2M false rs cs bs ty tz tb) := by
  have hP : q.size = 0 := hP
  refine run_vc EV_ok 1000 (s2_start_f P n k P o n q rs cs bs ty tz tb (fun i => i = ((0 : Nat) : Int))) ?_ (fun _ _ h => h)
    (fun fs m hb => s2N_good (w := false) (fun i e => by rw [e]; exact s2_round_f P n k o q rs cs bs ty tz tb hR (n + 1) 0 (by omega) (by omega)) hb)
  · skip
    have e0 := str_empty hP
    refine ⟨fun _ => ⟨fun _ => ⟨fun h => ?_, fun _ => ?_⟩, fun h => ?_⟩, fun h => ?_⟩
    · rw [e0] at h
      exact absurd h (by decide +kernel)
    · repeat' first | exact trivial | exact s2T0_2 | apply And.intro | exact rfl
    · simp at h
    · simp at h
end
end Go.Proofs.Ytapkbgccbmjfaaa
/- Of journal: the sums answer as they are told. No condition. -/
namespace Go.Proofs.Ytapkbgccbmjfaaa
set_option linter.unusedSectionVars false
set_option maxRecDepth 100000
theorem Esu_ok : EnvOk Esu := EnvOk.with E0_ok _ _ (fun _ _ _ _ h => by cases h)
/-- The sum of so many bytes. -/
def sumN (b : ByteArray) : Nat → Nat
  | 0 => 2166136261
  | j + 1 => ((sumN b j ^^^ (byteAt b j).toNat) * 16777619) % 4294967296
theorem sumN_lt (b : ByteArray) : ∀ j, sumN b j < 4294967296
  | 0 => by unfold sumN; decide
  | j + 1 => Nat.mod_lt _ (by decide)
theorem byteAt_nat (b : ByteArray) (j : Nat) : byteAt b j = ((byteAt b j).toNat : Int) ∧ (byteAt b j).toNat < 256 := by
  have := byteAt_range b j
  omega
theorem xor_lt (b : ByteArray) (j : Nat) : sumN b j ^^^ (byteAt b j).toNat < 4294967296 :=
  Nat.xor_lt_two_pow (n := 32) (sumN_lt b j) (Nat.lt_trans (byteAt_nat b j).2 (by decide))
theorem step32 (b : ByteArray) (j : Nat) : ari .mul .u32 (ari .xor .u32 (sumN b j : Int) (IntKind.wrap .u32 (byteAt b j))) 16777619 = (sumN b (j + 1) : Int) := by
  obtain ⟨h1, h2⟩ := byteAt_nat b j
  have hx := xor_lt b j
  have e1 : IntKind.wrap .u32 (byteAt b j) = ((byteAt b j).toNat : Int) := by rw [Go.IntWalk.u32_in _ (by omega)]; exact h1
  have e2 : ari .xor .u32 (sumN b j : Int) ((byteAt b j).toNat : Int) = ((sumN b j ^^^ (byteAt b j).toNat : Nat) : Int) := u32_xor_nat _ _ (sumN_lt b j) (by omega)
  rw [e1, e2, ari_mul, sumN, IntKind.wrap_u32]
  generalize sumN b j ^^^ (byteAt b j).toNat = x at *
  omega
theorem step64 (b : ByteArray) (j : Nat) : ari .rem .u64 (ari .mul .u64 (ari .xor .u64 (sumN b j : Int) (IntKind.wrap .u64 (byteAt b j))) 16777619) 4294967296 = (sumN b (j + 1) : Int) := by
  obtain ⟨h1, h2⟩ := byteAt_nat b j
  have hx := xor_lt b j
  have hs := sumN_lt b j
  have e1 : IntKind.wrap .u64 (byteAt b j) = ((byteAt b j).toNat : Int) := by rw [Go.IntWalk.u64_in _ (by omega)]; exact h1
  have e2 : ari .xor .u64 (sumN b j : Int) ((byteAt b j).toNat : Int) = ((sumN b j ^^^ (byteAt b j).toNat : Nat) : Int) := u64_xor_nat _ _ (by omega) (by omega)
  rw [e1, e2, ari_mul, ari_rem, sumN, Go.IntWalk.u64_in _ (by omega)]
  generalize sumN b j ^^^ (byteAt b j).toNat = x at *
  rw [Int.tmod_eq_emod_of_nonneg (by omega)]
  omega
theorem suT0_ok : TodoOk (ren 0 []) suT0 suT0 := TodoOk.same (by kernel_rfl)
theorem suH0_ok : TodoOk (ren 0 []) suH0 suH0 := TodoOk.same (by kernel_rfl)
theorem rsT0_ok : TodoOk (ren 0 []) rsT0 rsT0 := TodoOk.same (by kernel_rfl)
theorem rsH0_ok : TodoOk (ren 0 []) rsH0 rsH0 := TodoOk.same (by kernel_rfl)
theorem suN_good {h : Bool} {b : ByteArray} {A : SV → SMem → Prop} {Q : Int → Int → Prop} (hg : ∀ i n, Q i n → Good Esu.P A 0 (gH Esu 0 (suC b) M0 [(7, i64 (.o i)), (3, u32S (.o n))]) (gM Esu 0 (suC b) M0 [])) {fs : List SFr} {m : SMem} (hb : suN h b Q fs m) : Good Esu.P A 0 fs m := by
  unfold suN at hb
  split at hb
  · split at hb
    · exact gN_good hb.2 (hg _ _ hb.1)
    · exact hb.elim
  · exact hb.elim
theorem rsN_good {h : Bool} {b : ByteArray} {A : SV → SMem → Prop} {Q : Int → Int → Prop} (hg : ∀ i n, Q i n → Good Esu.P A 0 (gH Esu 0 (rsC b) M0 [(4, i64 (.o i)), (3, u64S (.o n))]) (gM Esu 0 (rsC b) M0 [])) {fs : List SFr} {m : SMem} (hb : rsN h b Q fs m) : Good Esu.P A 0 fs m := by
  unfold rsN at hb
  split at hb
  · split at hb
    · exact gN_good hb.2 (hg _ _ hb.1)
    · exact hb.elim
  · exact hb.elim
section
variable (b : ByteArray) (hb : b.size < 9223372036854775807)
include hb
theorem su_round : ∀ (K j : Nat), b.size - j < K → j ≤ b.size → Good Esu.P (intR .u32 (sumN b b.size : Int)) 0 (gH Esu 0 (suC b) M0 [(7, i64 (.o j)), (3, u32S (.o (sumN b j : Int)))]) (gM Esu 0 (suC b) M0 []) := by
  intro K
  induction K with
  | zero => intro j h; omega
  | succ K ih =>
    intro j hk hj
    refine past_vc Esu_ok 1000 (su_step b _ j (sumN b j : Int) (fun i' n' => ∃ t : Nat, i' = t ∧ n' = (sumN b t : Int) ∧ b.size - t < K ∧ t ≤ b.size)) ?_ (fun _ _ h => h)
      (fun fs m hb => suN_good (fun i' n' ⟨t, e, e2, k1, k2⟩ => by rw [e, e2]; exact ih t k1 k2) hb)
    rw [Int.toNat_natCast, step32, ari_add, i64_nat (show j < 9223372036854775807 by omega)]
    refine ⟨fun h => ?_, fun h => ?_⟩
    · have hlt : j < b.size := by have := of_decide_eq_true h; omega
      refine ⟨⟨⟨by omega, by omega⟩, trivial⟩, ⟨j + 1, rfl, rfl, by omega, by omega⟩, ?_⟩
      repeat' first | exact trivial | exact suH0_ok | apply And.intro | exact rfl
    · have : j = b.size := by have := of_decide_eq_false h; omega
      exact ⟨rfl, by rw [this]⟩
theorem su_good : Good Try.prog (intR .u32 (sumN b b.size : Int)) 0 (suC b) M0 := by
  refine run_vc Esu_ok 1000 (su_start b _ (fun i n => i = ((0 : Nat) : Int) ∧ n = (sumN b 0 : Int))) ?_ (fun _ _ h => h)
    (fun fs m hb' => suN_good (fun i n ⟨e, e2⟩ => by rw [e, e2]; exact su_round b hb (b.size + 1) 0 (by omega) (by omega)) hb')
  refine ⟨⟨rfl, rfl⟩, ?_⟩
  repeat' first | exact trivial | exact suT0_ok | apply And.intro | exact rfl
theorem rs_round : ∀ (K j : Nat), b.size - j < K → j ≤ b.size → Good Esu.P (intR .u32 (sumN b b.size : Int)) 0 (gH Esu 0 (rsC b) M0 [(4, i64 (.o j)), (3, u64S (.o (sumN b j : Int)))]) (gM Esu 0 (rsC b) M0 []) := by
  intro K
  induction K with
  | zero => intro j h; omega
  | succ K ih =>
    intro j hk hj
    refine past_vc Esu_ok 1000 (rs_step b _ j (sumN b j : Int) (fun i' n' => ∃ t : Nat, i' = t ∧ n' = (sumN b t : Int) ∧ b.size - t < K ∧ t ≤ b.size)) ?_ (fun _ _ h => h)
      (fun fs m hb => rsN_good (fun i' n' ⟨t, e, e2, k1, k2⟩ => by rw [e, e2]; exact ih t k1 k2) hb)
    rw [Int.toNat_natCast, step64, ari_add, i64_nat (show j < 9223372036854775807 by omega)]
    refine ⟨fun h => ?_, fun h => ?_⟩
    · have hlt : j < b.size := by have := of_decide_eq_true h; omega
      refine ⟨⟨⟨by omega, by omega⟩, trivial⟩, ⟨j + 1, rfl, rfl, by omega, by omega⟩, ?_⟩
      repeat' first | exact trivial | exact rsH0_ok | apply And.intro | exact rfl
    · have e : j = b.size := by have := of_decide_eq_false h; omega
      refine ⟨rfl, ?_⟩
      rw [e]
      exact Go.IntWalk.u32_in _ (by have := sumN_lt b b.size; omega)
theorem rs_good : Good Try.prog (intR .u32 (sumN b b.size : Int)) 0 (rsC b) M0 := by
  refine run_vc Esu_ok 1000 (rs_start b _ (fun i n => i = ((0 : Nat) : Int) ∧ n = (sumN b 0 : Int))) ?_ (fun _ _ h => h)
    (fun fs m hb' => rsN_good (fun i n ⟨e, e2⟩ => by rw [e, e2]; exact rs_round b hb (b.size + 1) 0 (by omega) (by omega)) hb')
  refine ⟨⟨rfl, rfl⟩, ?_⟩
  repeat' first | exact trivial | exact rsT0_ok | apply And.intro | exact rfl
end
/-! As contracts. -/
def sumT (m : SMem) : SV → Option Tree
  | .s (.c (.f (.opq (.string b)))) => some (needs [b.size < 9223372036854775807] (.ret (u32S (.o (sumN b b.size : Int))) m))
  | _ => none
theorem intR_con {k : IntKind} {r : Int} {s : SV} {m' : SMem} {R R' : Ren} {v : Value} (h : intR k r s m') (hv : s.ok R' v) : (SV.s (.c (.f (.int k (.o r))))).ok R v := by
  unfold intR at h
  split at h
  · rename_i k' x
    obtain ⟨rfl, h⟩ := h
    have hv : v = .int k' x.den := hv
    rw [hv, h]
    rfl
  · exact h.elim
theorem fn12s : E0.fn 12 = some Try.f12 := by kernel_rfl
theorem body12s : Try.f12.body = some (Try.f12.body.getD .skip) := by kernel_rfl
theorem fn13s : E0.fn 13 = some Try.f13 := by kernel_rfl
theorem body13s : Try.f13.body = some (Try.f13.body.getD .skip) := by kernel_rfl
theorem sumT_ok {m : SMem} {x : SV} {t : Tree} (h : sumT m x = some t) : Con E0 12 [x] m t ∧ Con E0 13 [x] m t := by
  unfold sumT at h
  split at h
  · rename_i b
    cases h
    refine ⟨?_, ?_⟩
    · exact Con.ro E0_ok (l := [strV' b]) (l' := [strV' b]) (ms := M0) (m := m) (q := _) (A := intR .u32 (sumN b b.size : Int)) fn12s body12s rfl (fun i => i) (fun i b hb => by
        have hb : (Tr.nil : Tr SBlk).get i = some b := hb
        rw [Tr.get_nil] at hb; cases hb) (fun R vs ha => strV_ok ha) (fun hq => su_good b (hq _ (by simp))) (fun _ _ _ _ _ => intR_con)
    · exact Con.ro E0_ok (l := [strV' b]) (l' := [strV' b]) (ms := M0) (m := m) (q := _) (A := intR .u32 (sumN b b.size : Int)) fn13s body13s rfl (fun i => i) (fun i b hb => by
        have hb : (Tr.nil : Tr SBlk).get i = some b := hb
        rw [Tr.get_nil] at hb; cases hb) (fun R vs ha => strV_ok ha) (fun hq => rs_good b (hq _ (by simp))) (fun _ _ _ _ _ => intR_con)
  · cases h
end Go.Proofs.Ytapkbgccbmjfaaa
/- Of journal: bytes and behind them their sum: states. No condition. -/
namespace Go.Proofs.Ytapkbgccbmjfaaa
noncomputable section
/-- Bytes of a number, the lower ones first. -/
def fourB (k : Int) : ByteArray := strOf [.int .u8 (IntKind.wrap .u8 k), .int .u8 (IntKind.wrap .u8 (ari .shr .u32 k 8)), .int .u8 (IntKind.wrap .u8 (ari .shr .u32 k 16)), .int .u8 (IntKind.wrap .u8 (ari .shr .u32 k 24))]
def smA (a b : ByteArray) : ByteArray := b ++ fourB (sumN (a ++ b) (a ++ b).size : Int)
/-- A string that is known, or told. -/
def strX : SV → Option ByteArray
  | .s (.c (.f (.opq (.string s)))) => some s
  | .s (.c (.f (.lit (.string s)))) => some s
  | _ => none
def conU (g : FuncId) (l : List SV) (m : SMem) : Option Tree := match g, l with
  | 12, [x] => sumT m x
  | 13, [x] => sumT m x
  | _, _ => none
def EU : Env := ⟨Try.prog, fnOf, conU, fun _ _ _ => false⟩
def smC' (a b : ByteArray) : List SFr := [callFr 25 Try.f25.ntmps [strV' a, strV' b] (Try.f25.body.getD .skip)]
def foC (k : Int) : List SFr := [callFr 28 Try.f28.ntmps [u32S (.o k)] (Try.f28.body.getD .skip)]
def smT (m : SMem) (x y : SV) : Option Tree := match strX x, strX y with
  | some a, some b => some (needs [a.size + b.size ≤ 1000000] (.ret (strV' (smA a b)) m))
  | _, _ => none
def foT (m : SMem) : SV → Option Tree
  | .s (.c (.f (.int .u32 (.o k)))) => some (.ret (strV' (fourB k)) m)
  | _ => none
end
end Go.Proofs.Ytapkbgccbmjfaaa
/- Of journal: bytes with their sum, as propositions. No condition. -/
namespace Go.Proofs.Ytapkbgccbmjfaaa
set_option maxRecDepth 100000
theorem sm_run (a b e : ByteArray) : (run EU 1000 0 (smC' a b) M0).vc (strQ e) (fun _ _ => False) =
    (((↑(ByteArray.size a + ByteArray.size b) : Int) ≤ (9223372036854775807 : Int) ∧ True) ∧ (ByteArray.size (a ++ b) < (9223372036854775807 : Nat) ∧ True) ∧ ((↑(ByteArray.size b + ByteArray.size (strOf [Value.int IntKind.u8 (IntKind.wrap IntKind.u8 (↑(sumN (a ++ b) (ByteArray.size (a ++ b))) : Int)), Value.int IntKind.u8 (IntKind.wrap IntKind.u8 (ari BinOp.shr IntKind.u32 (↑(sumN (a ++ b) (ByteArray.size (a ++ b))) : Int) (8 : Int))), Value.int IntKind.u8 (IntKind.wrap IntKind.u8 (ari BinOp.shr IntKind.u32 (↑(sumN (a ++ b) (ByteArray.size (a ++ b))) : Int) (16 : Int))), Value.int IntKind.u8 (IntKind.wrap IntKind.u8 (ari BinOp.shr IntKind.u32 (↑(sumN (a ++ b) (ByteArray.size (a ++ b))) : Int) (24 : Int)))])) : Int) ≤ (9223372036854775807 : Int) ∧ True) ∧ b ++ strOf [Value.int IntKind.u8 (IntKind.wrap IntKind.u8 (↑(sumN (a ++ b) (ByteArray.size (a ++ b))) : Int)), Value.int IntKind.u8 (IntKind.wrap IntKind.u8 (ari BinOp.shr IntKind.u32 (↑(sumN (a ++ b) (ByteArray.size (a ++ b))) : Int) (8 : Int))), Value.int IntKind.u8 (IntKind.wrap IntKind.u8 (ari BinOp.shr IntKind.u32 (↑(sumN (a ++ b) (ByteArray.size (a ++ b))) : Int) (16 : Int))), Value.int IntKind.u8 (IntKind.wrap IntKind.u8 (ari BinOp.shr IntKind.u32 (↑(sumN (a ++ b) (ByteArray.size (a ++ b))) : Int) (24 : Int)))] = e) := by kernel_rfl
theorem fo_run (k : Int) (e : ByteArray) : (run EU 1000 0 (foC k) M0).vc (strQ e) (fun _ _ => False) =
    (strOf [Value.int IntKind.u8 (IntKind.wrap IntKind.u8 k), Value.int IntKind.u8 (IntKind.wrap IntKind.u8 (ari BinOp.shr IntKind.u32 k (8 : Int))), Value.int IntKind.u8 (IntKind.wrap IntKind.u8 (ari BinOp.shr IntKind.u32 k (16 : Int))), Value.int IntKind.u8 (IntKind.wrap IntKind.u8 (ari BinOp.shr IntKind.u32 k (24 : Int)))] = e) := by kernel_rfl
end Go.Proofs.Ytapkbgccbmjfaaa
/- Of journal: contracts of sums, and of scripts without picks; JournalBegins' states. No condition. -/
namespace Go.Proofs.Ytapkbgccbmjfaaa
set_option linter.unusedSectionVars false
set_option maxRecDepth 100000
theorem strX_ok {x : SV} {a : ByteArray} (h : strX x = some a) {R R' : Ren} {v : Value} (hv : x.ok R v) : (strV' a).ok R' v := by
  unfold strX at h
  split at h
  · cases h; exact ⟨hv.1, hv.2⟩
  · cases h; exact ⟨hv.1, rfl⟩
  · cases h
theorem strQ_con {e : ByteArray} {s : SV} {m' : SMem} {R R' : Ren} {v : Value} (h : strQ e s m') (hv : s.ok R' v) : (strV' e).ok R v := by
  unfold strQ at h
  split at h
  · rename_i s'
    have h : s' = e := h
    rw [← h]
    exact ⟨hv.1, hv.2⟩
  · exact h.elim
theorem no_blocks {P : Nat → SBlk → Prop} : ∀ i b, getB M0.bl i = some b → P i b := fun i b hb => by
  have hb : (Tr.nil : Tr SBlk).get i = some b := hb
  rw [Tr.get_nil] at hb; cases hb
theorem conU_ok (g : FuncId) (l : List SV) (m : SMem) (t : Tree) (h : conU g l m = some t) : Con E0 g l m t := by
  unfold conU at h
  split at h
  · exact (sumT_ok h).1
  · exact (sumT_ok h).2
  · cases h
theorem EU_ok : EnvOk EU := EnvOk.with E0_ok _ _ conU_ok
theorem fn25s : E0.fn 25 = some Try.f25 := by kernel_rfl
theorem body25s : Try.f25.body = some (Try.f25.body.getD .skip) := by kernel_rfl
theorem fn28s : E0.fn 28 = some Try.f28 := by kernel_rfl
theorem body28s : Try.f28.body = some (Try.f28.body.getD .skip) := by kernel_rfl
theorem fourB_size (k : Int) : (fourB k).size = 4 := strOf_size _
theorem sm_good (a b : ByteArray) (h : a.size + b.size ≤ 1000000) : Good Try.prog (strQ (smA a b)) 0 (smC' a b) M0 := by
  refine run_vc EU_ok 1000 (sm_run a b _) ?_ (fun _ _ h => h) (fun _ _ h => h.elim)
  have h4 : ∀ x y z w, (strOf [Value.int .u8 x, Value.int .u8 y, Value.int .u8 z, Value.int .u8 w]).size = 4 := fun _ _ _ _ => strOf_size _
  rw [h4, ByteArray.size_append]
  exact ⟨⟨by omega, trivial⟩, ⟨by omega, trivial⟩, ⟨by omega, trivial⟩, by unfold smA fourB; rw [ByteArray.size_append]⟩
theorem fo_good (k : Int) : Good Try.prog (strQ (fourB k)) 0 (foC k) M0 := run_vc EU_ok 1000 (fo_run k _) rfl (fun _ _ h => h) (fun _ _ h => h.elim)
theorem smT_ok {m : SMem} {x y : SV} {t : Tree} (h : smT m x y = some t) : Con E0 25 [x, y] m t := by
  unfold smT at h
  split at h
  · rename_i a b ha hb
    cases h
    refine Con.ro E0_ok (l' := [strV' a, strV' b]) (ms := M0) (A := strQ (smA a b)) fn25s body25s rfl (fun i => i) no_blocks (fun R vs hv => ?_) (fun hq => sm_good a b (hq _ (by simp))) (fun _ _ _ _ _ => strQ_con)
    match vs, hv with
    | [u, w], hv => exact ⟨strX_ok ha hv.1, strX_ok hb hv.2.1, trivial⟩
  · cases h
theorem foT_ok {m : SMem} {x : SV} {t : Tree} (h : foT m x = some t) : Con E0 28 [x] m t := by
  unfold foT at h
  split at h
  · rename_i k
    cases h
    refine Con.ro E0_ok (q := []) (l' := [u32S (.o k)]) (ms := M0) (A := strQ (fourB k)) fn28s body28s rfl (fun i => i) no_blocks (fun R vs hv => ?_) (fun _ => fo_good k) (fun _ _ _ _ _ => strQ_con)
    match vs, hv with
    | [u], hv => exact ⟨hv.1, trivial⟩
  · cases h
/-! Scripts without picks. -/
section
noncomputable section
def encN (m : SMem) : SV → Option Tree
  | .s (.agg (.ls [.f (.int .i64 (.o P)), .f (.slice i o n _), .f (.lit (.slice none 0 0))])) => match rowV m i with
    | some (_, cs) => some (needs [StrOk cs o.den n.den] (.br (mayS P o.den n.den 0 cs #[]) (.ret (encV (encS P o.den n.den 0 cs #[])) m) (.ret nil3S m)))
    | none => none
  | _ => none
def mayE (m : SMem) : SV → Option Tree
  | .s (.agg (.ls [.f (.int .i64 (.o P)), .f (.slice i o n _), .f (.lit (.string ⟨⟨[]⟩⟩))])) => match rowV m i with
    | some (_, cs) => some (needs [StrR cs o.den n.den] (.ret (sB (.o (mayS P o.den n.den 0 cs #[]))) m))
    | none => none
  | .s (.agg (.ls [.f (.int .i64 (.o _)), .f .e0, .f (.lit (.string ⟨⟨[]⟩⟩))])) => some (.ret (sB (.l false)) m)
  | x => m9T m x
def bytE (m : SMem) : SV → Option Tree
  | .s (.agg (.ls [.f (.int .i64 (.o P)), .f (.slice i o n _), .f (.lit (.string ⟨⟨[]⟩⟩))])) => match rowV m i with
    | some (true, cs) => some (needs [StrOk cs o.den n.den, mayS P o.den n.den 0 cs #[] = true] (.ret (strV' (encS P o.den n.den 0 cs #[])) m))
    | _ => none
  | _ => none
def conB (g : FuncId) (l : List SV) (m : SMem) : Option Tree := match g, l with
  | 9, [] => some (needs [] (.ret (sB (.l true)) m))
  | 12, [x] => sumT m x
  | 13, [x] => sumT m x
  | 14, [x] => mayE m x
  | 23, [x] => greatT m x
  | 24, [x] => encN m x
  | 25, [x, y] => smT m x y
  | 27, [x] => bytE m x
  | 28, [x] => foT m x
  | _, _ => none
def EB : Env := ⟨Try.prog, fnOf, conB, fun _ _ _ => false⟩
def jbC (P : Int) (A : SC) (q b : ByteArray) : List SFr := [callFr 3 Try.f3.ntmps [refV P A q, strV' b] (Try.f3.body.getD .skip)]
end
end
end Go.Proofs.Ytapkbgccbmjfaaa
/- Of journal: JournalBegins' runs, as propositions. No condition. -/
namespace Go.Proofs.Ytapkbgccbmjfaaa
set_option maxRecDepth 100000
theorem jb_row (P : Int) (o n : Nat) (q b : ByteArray) (cs : Array Value) (ty : TypeId) : (run EB 1000 1 (jbC P (slC 0 o n) q b) (prM true cs ty)).vc (boolR true) (fun _ _ => False) =
    ((StrI cs o n ∧ True) ∧ ((greatV n q cs o == false) = true → (decide (((((ByteArray.size b) : Nat) : Int)) > (6000 : Int)) = true → true = true) ∧ (decide (((((ByteArray.size b) : Nat) : Int)) > (6000 : Int)) = false → (StrOk cs o n ∧ True) ∧ (mayS P o n (0 : Nat) cs #[] = true → ((↑((4 : Nat) + ByteArray.size (strOf [Value.int IntKind.u8 (IntKind.wrap IntKind.u8 (((ByteArray.size (encS P o n (0 : Nat) cs #[])) : Nat) : Int)), Value.int IntKind.u8 (IntKind.wrap IntKind.u8 (ari BinOp.shr IntKind.i64 ((((ByteArray.size (encS P o n (0 : Nat) cs #[])) : Nat) : Int)) (8 : Int)))])) : Int) ≤ (9223372036854775807 : Int) ∧ True) ∧ ((↑(ByteArray.size (ByteArray.mk #[(66 : UInt8), (76 : UInt8), (87 : UInt8), (75 : UInt8)] ++ strOf [Value.int IntKind.u8 (IntKind.wrap IntKind.u8 (((ByteArray.size (encS P o n (0 : Nat) cs #[])) : Nat) : Int)), Value.int IntKind.u8 (IntKind.wrap IntKind.u8 (ari BinOp.shr IntKind.i64 ((((ByteArray.size (encS P o n (0 : Nat) cs #[])) : Nat) : Int)) (8 : Int)))]) + ByteArray.size (encS P o n (0 : Nat) cs #[])) : Int) ≤ (9223372036854775807 : Int) ∧ True) ∧ ((0 : Nat) + ByteArray.size (ByteArray.mk #[(66 : UInt8), (76 : UInt8), (87 : UInt8), (75 : UInt8)] ++ strOf [Value.int IntKind.u8 (IntKind.wrap IntKind.u8 (((ByteArray.size (encS P o n (0 : Nat) cs #[])) : Nat) : Int)), Value.int IntKind.u8 (IntKind.wrap IntKind.u8 (ari BinOp.shr IntKind.i64 ((((ByteArray.size (encS P o n (0 : Nat) cs #[])) : Nat) : Int)) (8 : Int)))] ++ encS P o n (0 : Nat) cs #[]) ≤ (1000000 : Nat) ∧ True) ∧ (ByteArray.size b < (9223372036854775807 : Nat) ∧ True) ∧ (ByteArray.size b < (9223372036854775807 : Nat) ∧ True) ∧ (((↑(sumN b (ByteArray.size b)) : Int) != (↑(sumN b (ByteArray.size b)) : Int)) = true → false = true) ∧ (((↑(sumN b (ByteArray.size b)) : Int) != (↑(sumN b (ByteArray.size b)) : Int)) = false → (StrR cs o n ∧ True) ∧ ((!mayS P o n (0 : Nat) cs #[]) = true → (((match mkSB (false && true) (ByteArray.toList (smA (ByteArray.mk #[]) (ByteArray.mk #[(66 : UInt8), (76 : UInt8), (87 : UInt8), (75 : UInt8)] ++ strOf [Value.int IntKind.u8 (IntKind.wrap IntKind.u8 (((ByteArray.size (encS P o n (0 : Nat) cs #[])) : Nat) : Int)), Value.int IntKind.u8 (IntKind.wrap IntKind.u8 (ari BinOp.shr IntKind.i64 ((((ByteArray.size (encS P o n (0 : Nat) cs #[])) : Nat) : Int)) (8 : Int)))] ++ encS P o n (0 : Nat) cs #[])) == ByteArray.toList (ByteArray.mk #[])) with | SB.l b => b | SB.o b => b) == true) = true → false = true) ∧ (((match mkSB (false && true) (ByteArray.toList (smA (ByteArray.mk #[]) (ByteArray.mk #[(66 : UInt8), (76 : UInt8), (87 : UInt8), (75 : UInt8)] ++ strOf [Value.int IntKind.u8 (IntKind.wrap IntKind.u8 (((ByteArray.size (encS P o n (0 : Nat) cs #[])) : Nat) : Int)), Value.int IntKind.u8 (IntKind.wrap IntKind.u8 (ari BinOp.shr IntKind.i64 ((((ByteArray.size (encS P o n (0 : Nat) cs #[])) : Nat) : Int)) (8 : Int)))] ++ encS P o n (0 : Nat) cs #[])) == ByteArray.toList (ByteArray.mk #[])) with | SB.l b => b | SB.o b => b) == true) = false → false = true)) ∧ ((!mayS P o n (0 : Nat) cs #[]) = false → (StrOk cs o n ∧ mayS P o n (0 : Nat) cs #[] = true ∧ True) ∧ ((↑((4 : Nat) + ByteArray.size (strOf [Value.int IntKind.u8 (IntKind.wrap IntKind.u8 (ari BinOp.rem IntKind.i64 ((((ByteArray.size (encS P o n (0 : Nat) cs #[])) : Nat) : Int)) (256 : Int))), Value.int IntKind.u8 (IntKind.wrap IntKind.u8 (ari BinOp.quo IntKind.i64 ((((ByteArray.size (encS P o n (0 : Nat) cs #[])) : Nat) : Int)) (256 : Int)))])) : Int) ≤ (9223372036854775807 : Int) ∧ True) ∧ ((↑(ByteArray.size (ByteArray.mk #[(66 : UInt8), (76 : UInt8), (87 : UInt8), (75 : UInt8)] ++ strOf [Value.int IntKind.u8 (IntKind.wrap IntKind.u8 (ari BinOp.rem IntKind.i64 ((((ByteArray.size (encS P o n (0 : Nat) cs #[])) : Nat) : Int)) (256 : Int))), Value.int IntKind.u8 (IntKind.wrap IntKind.u8 (ari BinOp.quo IntKind.i64 ((((ByteArray.size (encS P o n (0 : Nat) cs #[])) : Nat) : Int)) (256 : Int)))]) + ByteArray.size (encS P o n (0 : Nat) cs #[])) : Int) ≤ (9223372036854775807 : Int) ∧ True) ∧ (ByteArray.size (ByteArray.mk #[(66 : UInt8), (76 : UInt8), (87 : UInt8), (75 : UInt8)] ++ strOf [Value.int IntKind.u8 (IntKind.wrap IntKind.u8 (ari BinOp.rem IntKind.i64 ((((ByteArray.size (encS P o n (0 : Nat) cs #[])) : Nat) : Int)) (256 : Int))), Value.int IntKind.u8 (IntKind.wrap IntKind.u8 (ari BinOp.quo IntKind.i64 ((((ByteArray.size (encS P o n (0 : Nat) cs #[])) : Nat) : Int)) (256 : Int)))] ++ encS P o n (0 : Nat) cs #[]) < (9223372036854775807 : Nat) ∧ True) ∧ ((↑(ByteArray.size (ByteArray.mk #[(66 : UInt8), (76 : UInt8), (87 : UInt8), (75 : UInt8)] ++ strOf [Value.int IntKind.u8 (IntKind.wrap IntKind.u8 (ari BinOp.rem IntKind.i64 ((((ByteArray.size (encS P o n (0 : Nat) cs #[])) : Nat) : Int)) (256 : Int))), Value.int IntKind.u8 (IntKind.wrap IntKind.u8 (ari BinOp.quo IntKind.i64 ((((ByteArray.size (encS P o n (0 : Nat) cs #[])) : Nat) : Int)) (256 : Int)))] ++ encS P o n (0 : Nat) cs #[]) + ByteArray.size (fourB (↑(sumN (ByteArray.mk #[(66 : UInt8), (76 : UInt8), (87 : UInt8), (75 : UInt8)] ++ strOf [Value.int IntKind.u8 (IntKind.wrap IntKind.u8 (ari BinOp.rem IntKind.i64 ((((ByteArray.size (encS P o n (0 : Nat) cs #[])) : Nat) : Int)) (256 : Int))), Value.int IntKind.u8 (IntKind.wrap IntKind.u8 (ari BinOp.quo IntKind.i64 ((((ByteArray.size (encS P o n (0 : Nat) cs #[])) : Nat) : Int)) (256 : Int)))] ++ encS P o n (0 : Nat) cs #[]) (ByteArray.size (ByteArray.mk #[(66 : UInt8), (76 : UInt8), (87 : UInt8), (75 : UInt8)] ++ strOf [Value.int IntKind.u8 (IntKind.wrap IntKind.u8 (ari BinOp.rem IntKind.i64 ((((ByteArray.size (encS P o n (0 : Nat) cs #[])) : Nat) : Int)) (256 : Int))), Value.int IntKind.u8 (IntKind.wrap IntKind.u8 (ari BinOp.quo IntKind.i64 ((((ByteArray.size (encS P o n (0 : Nat) cs #[])) : Nat) : Int)) (256 : Int)))] ++ encS P o n (0 : Nat) cs #[]))) : Int))) : Int) ≤ (9223372036854775807 : Int) ∧ True) ∧ (((match mkSB (false && false) (ByteArray.toList (smA (ByteArray.mk #[]) (ByteArray.mk #[(66 : UInt8), (76 : UInt8), (87 : UInt8), (75 : UInt8)] ++ strOf [Value.int IntKind.u8 (IntKind.wrap IntKind.u8 (((ByteArray.size (encS P o n (0 : Nat) cs #[])) : Nat) : Int)), Value.int IntKind.u8 (IntKind.wrap IntKind.u8 (ari BinOp.shr IntKind.i64 ((((ByteArray.size (encS P o n (0 : Nat) cs #[])) : Nat) : Int)) (8 : Int)))] ++ encS P o n (0 : Nat) cs #[])) == ByteArray.toList (ByteArray.mk #[(66 : UInt8), (76 : UInt8), (87 : UInt8), (75 : UInt8)] ++ strOf [Value.int IntKind.u8 (IntKind.wrap IntKind.u8 (ari BinOp.rem IntKind.i64 ((((ByteArray.size (encS P o n (0 : Nat) cs #[])) : Nat) : Int)) (256 : Int))), Value.int IntKind.u8 (IntKind.wrap IntKind.u8 (ari BinOp.quo IntKind.i64 ((((ByteArray.size (encS P o n (0 : Nat) cs #[])) : Nat) : Int)) (256 : Int)))] ++ encS P o n (0 : Nat) cs #[] ++ fourB (↑(sumN (ByteArray.mk #[(66 : UInt8), (76 : UInt8), (87 : UInt8), (75 : UInt8)] ++ strOf [Value.int IntKind.u8 (IntKind.wrap IntKind.u8 (ari BinOp.rem IntKind.i64 ((((ByteArray.size (encS P o n (0 : Nat) cs #[])) : Nat) : Int)) (256 : Int))), Value.int IntKind.u8 (IntKind.wrap IntKind.u8 (ari BinOp.quo IntKind.i64 ((((ByteArray.size (encS P o n (0 : Nat) cs #[])) : Nat) : Int)) (256 : Int)))] ++ encS P o n (0 : Nat) cs #[]) (ByteArray.size (ByteArray.mk #[(66 : UInt8), (76 : UInt8), (87 : UInt8), (75 : UInt8)] ++ strOf [Value.int IntKind.u8 (IntKind.wrap IntKind.u8 (ari BinOp.rem IntKind.i64 ((((ByteArray.size (encS P o n (0 : Nat) cs #[])) : Nat) : Int)) (256 : Int))), Value.int IntKind.u8 (IntKind.wrap IntKind.u8 (ari BinOp.quo IntKind.i64 ((((ByteArray.size (encS P o n (0 : Nat) cs #[])) : Nat) : Int)) (256 : Int)))] ++ encS P o n (0 : Nat) cs #[]))) : Int))) with | SB.l b => b | SB.o b => b) == true) = true → true = true) ∧ (((match mkSB (false && false) (ByteArray.toList (smA (ByteArray.mk #[]) (ByteArray.mk #[(66 : UInt8), (76 : UInt8), (87 : UInt8), (75 : UInt8)] ++ strOf [Value.int IntKind.u8 (IntKind.wrap IntKind.u8 (((ByteArray.size (encS P o n (0 : Nat) cs #[])) : Nat) : Int)), Value.int IntKind.u8 (IntKind.wrap IntKind.u8 (ari BinOp.shr IntKind.i64 ((((ByteArray.size (encS P o n (0 : Nat) cs #[])) : Nat) : Int)) (8 : Int)))] ++ encS P o n (0 : Nat) cs #[])) == ByteArray.toList (ByteArray.mk #[(66 : UInt8), (76 : UInt8), (87 : UInt8), (75 : UInt8)] ++ strOf [Value.int IntKind.u8 (IntKind.wrap IntKind.u8 (ari BinOp.rem IntKind.i64 ((((ByteArray.size (encS P o n (0 : Nat) cs #[])) : Nat) : Int)) (256 : Int))), Value.int IntKind.u8 (IntKind.wrap IntKind.u8 (ari BinOp.quo IntKind.i64 ((((ByteArray.size (encS P o n (0 : Nat) cs #[])) : Nat) : Int)) (256 : Int)))] ++ encS P o n (0 : Nat) cs #[] ++ fourB (↑(sumN (ByteArray.mk #[(66 : UInt8), (76 : UInt8), (87 : UInt8), (75 : UInt8)] ++ strOf [Value.int IntKind.u8 (IntKind.wrap IntKind.u8 (ari BinOp.rem IntKind.i64 ((((ByteArray.size (encS P o n (0 : Nat) cs #[])) : Nat) : Int)) (256 : Int))), Value.int IntKind.u8 (IntKind.wrap IntKind.u8 (ari BinOp.quo IntKind.i64 ((((ByteArray.size (encS P o n (0 : Nat) cs #[])) : Nat) : Int)) (256 : Int)))] ++ encS P o n (0 : Nat) cs #[]) (ByteArray.size (ByteArray.mk #[(66 : UInt8), (76 : UInt8), (87 : UInt8), (75 : UInt8)] ++ strOf [Value.int IntKind.u8 (IntKind.wrap IntKind.u8 (ari BinOp.rem IntKind.i64 ((((ByteArray.size (encS P o n (0 : Nat) cs #[])) : Nat) : Int)) (256 : Int))), Value.int IntKind.u8 (IntKind.wrap IntKind.u8 (ari BinOp.quo IntKind.i64 ((((ByteArray.size (encS P o n (0 : Nat) cs #[])) : Nat) : Int)) (256 : Int)))] ++ encS P o n (0 : Nat) cs #[]))) : Int))) with | SB.l b => b | SB.o b => b) == true) = false → false = true)))) ∧ (mayS P o n (0 : Nat) cs #[] = false → (ByteArray.size b < (9223372036854775807 : Nat) ∧ True) ∧ (ByteArray.size b < (9223372036854775807 : Nat) ∧ True) ∧ (((↑(sumN b (ByteArray.size b)) : Int) != (↑(sumN b (ByteArray.size b)) : Int)) = true → false = true) ∧ (((↑(sumN b (ByteArray.size b)) : Int) != (↑(sumN b (ByteArray.size b)) : Int)) = false → (StrR cs o n ∧ True) ∧ ((!mayS P o n (0 : Nat) cs #[]) = true → true = true) ∧ ((!mayS P o n (0 : Nat) cs #[]) = false → (StrOk cs o n ∧ mayS P o n (0 : Nat) cs #[] = true ∧ True) ∧ ((↑((4 : Nat) + ByteArray.size (strOf [Value.int IntKind.u8 (IntKind.wrap IntKind.u8 (ari BinOp.rem IntKind.i64 ((((ByteArray.size (encS P o n (0 : Nat) cs #[])) : Nat) : Int)) (256 : Int))), Value.int IntKind.u8 (IntKind.wrap IntKind.u8 (ari BinOp.quo IntKind.i64 ((((ByteArray.size (encS P o n (0 : Nat) cs #[])) : Nat) : Int)) (256 : Int)))])) : Int) ≤ (9223372036854775807 : Int) ∧ True) ∧ ((↑(ByteArray.size (ByteArray.mk #[(66 : UInt8), (76 : UInt8), (87 : UInt8), (75 : UInt8)] ++ strOf [Value.int IntKind.u8 (IntKind.wrap IntKind.u8 (ari BinOp.rem IntKind.i64 ((((ByteArray.size (encS P o n (0 : Nat) cs #[])) : Nat) : Int)) (256 : Int))), Value.int IntKind.u8 (IntKind.wrap IntKind.u8 (ari BinOp.quo IntKind.i64 ((((ByteArray.size (encS P o n (0 : Nat) cs #[])) : Nat) : Int)) (256 : Int)))]) + ByteArray.size (encS P o n (0 : Nat) cs #[])) : Int) ≤ (9223372036854775807 : Int) ∧ True) ∧ (ByteArray.size (ByteArray.mk #[(66 : UInt8), (76 : UInt8), (87 : UInt8), (75 : UInt8)] ++ strOf [Value.int IntKind.u8 (IntKind.wrap IntKind.u8 (ari BinOp.rem IntKind.i64 ((((ByteArray.size (encS P o n (0 : Nat) cs #[])) : Nat) : Int)) (256 : Int))), Value.int IntKind.u8 (IntKind.wrap IntKind.u8 (ari BinOp.quo IntKind.i64 ((((ByteArray.size (encS P o n (0 : Nat) cs #[])) : Nat) : Int)) (256 : Int)))] ++ encS P o n (0 : Nat) cs #[]) < (9223372036854775807 : Nat) ∧ True) ∧ ((↑(ByteArray.size (ByteArray.mk #[(66 : UInt8), (76 : UInt8), (87 : UInt8), (75 : UInt8)] ++ strOf [Value.int IntKind.u8 (IntKind.wrap IntKind.u8 (ari BinOp.rem IntKind.i64 ((((ByteArray.size (encS P o n (0 : Nat) cs #[])) : Nat) : Int)) (256 : Int))), Value.int IntKind.u8 (IntKind.wrap IntKind.u8 (ari BinOp.quo IntKind.i64 ((((ByteArray.size (encS P o n (0 : Nat) cs #[])) : Nat) : Int)) (256 : Int)))] ++ encS P o n (0 : Nat) cs #[]) + ByteArray.size (fourB (↑(sumN (ByteArray.mk #[(66 : UInt8), (76 : UInt8), (87 : UInt8), (75 : UInt8)] ++ strOf [Value.int IntKind.u8 (IntKind.wrap IntKind.u8 (ari BinOp.rem IntKind.i64 ((((ByteArray.size (encS P o n (0 : Nat) cs #[])) : Nat) : Int)) (256 : Int))), Value.int IntKind.u8 (IntKind.wrap IntKind.u8 (ari BinOp.quo IntKind.i64 ((((ByteArray.size (encS P o n (0 : Nat) cs #[])) : Nat) : Int)) (256 : Int)))] ++ encS P o n (0 : Nat) cs #[]) (ByteArray.size (ByteArray.mk #[(66 : UInt8), (76 : UInt8), (87 : UInt8), (75 : UInt8)] ++ strOf [Value.int IntKind.u8 (IntKind.wrap IntKind.u8 (ari BinOp.rem IntKind.i64 ((((ByteArray.size (encS P o n (0 : Nat) cs #[])) : Nat) : Int)) (256 : Int))), Value.int IntKind.u8 (IntKind.wrap IntKind.u8 (ari BinOp.quo IntKind.i64 ((((ByteArray.size (encS P o n (0 : Nat) cs #[])) : Nat) : Int)) (256 : Int)))] ++ encS P o n (0 : Nat) cs #[]))) : Int))) : Int) ≤ (9223372036854775807 : Int) ∧ True) ∧ (((match mkSB (true && false) (ByteArray.toList (ByteArray.mk #[]) == ByteArray.toList (ByteArray.mk #[(66 : UInt8), (76 : UInt8), (87 : UInt8), (75 : UInt8)] ++ strOf [Value.int IntKind.u8 (IntKind.wrap IntKind.u8 (ari BinOp.rem IntKind.i64 ((((ByteArray.size (encS P o n (0 : Nat) cs #[])) : Nat) : Int)) (256 : Int))), Value.int IntKind.u8 (IntKind.wrap IntKind.u8 (ari BinOp.quo IntKind.i64 ((((ByteArray.size (encS P o n (0 : Nat) cs #[])) : Nat) : Int)) (256 : Int)))] ++ encS P o n (0 : Nat) cs #[] ++ fourB (↑(sumN (ByteArray.mk #[(66 : UInt8), (76 : UInt8), (87 : UInt8), (75 : UInt8)] ++ strOf [Value.int IntKind.u8 (IntKind.wrap IntKind.u8 (ari BinOp.rem IntKind.i64 ((((ByteArray.size (encS P o n (0 : Nat) cs #[])) : Nat) : Int)) (256 : Int))), Value.int IntKind.u8 (IntKind.wrap IntKind.u8 (ari BinOp.quo IntKind.i64 ((((ByteArray.size (encS P o n (0 : Nat) cs #[])) : Nat) : Int)) (256 : Int)))] ++ encS P o n (0 : Nat) cs #[]) (ByteArray.size (ByteArray.mk #[(66 : UInt8), (76 : UInt8), (87 : UInt8), (75 : UInt8)] ++ strOf [Value.int IntKind.u8 (IntKind.wrap IntKind.u8 (ari BinOp.rem IntKind.i64 ((((ByteArray.size (encS P o n (0 : Nat) cs #[])) : Nat) : Int)) (256 : Int))), Value.int IntKind.u8 (IntKind.wrap IntKind.u8 (ari BinOp.quo IntKind.i64 ((((ByteArray.size (encS P o n (0 : Nat) cs #[])) : Nat) : Int)) (256 : Int)))] ++ encS P o n (0 : Nat) cs #[]))) : Int))) with | SB.l b => b | SB.o b => b) == true) = true → false = true) ∧ (((match mkSB (true && false) (ByteArray.toList (ByteArray.mk #[]) == ByteArray.toList (ByteArray.mk #[(66 : UInt8), (76 : UInt8), (87 : UInt8), (75 : UInt8)] ++ strOf [Value.int IntKind.u8 (IntKind.wrap IntKind.u8 (ari BinOp.rem IntKind.i64 ((((ByteArray.size (encS P o n (0 : Nat) cs #[])) : Nat) : Int)) (256 : Int))), Value.int IntKind.u8 (IntKind.wrap IntKind.u8 (ari BinOp.quo IntKind.i64 ((((ByteArray.size (encS P o n (0 : Nat) cs #[])) : Nat) : Int)) (256 : Int)))] ++ encS P o n (0 : Nat) cs #[] ++ fourB (↑(sumN (ByteArray.mk #[(66 : UInt8), (76 : UInt8), (87 : UInt8), (75 : UInt8)] ++ strOf [Value.int IntKind.u8 (IntKind.wrap IntKind.u8 (ari BinOp.rem IntKind.i64 ((((ByteArray.size (encS P o n (0 : Nat) cs #[])) : Nat) : Int)) (256 : Int))), Value.int IntKind.u8 (IntKind.wrap IntKind.u8 (ari BinOp.quo IntKind.i64 ((((ByteArray.size (encS P o n (0 : Nat) cs #[])) : Nat) : Int)) (256 : Int)))] ++ encS P o n (0 : Nat) cs #[]) (ByteArray.size (ByteArray.mk #[(66 : UInt8), (76 : UInt8), (87 : UInt8), (75 : UInt8)] ++ strOf [Value.int IntKind.u8 (IntKind.wrap IntKind.u8 (ari BinOp.rem IntKind.i64 ((((ByteArray.size (encS P o n (0 : Nat) cs #[])) : Nat) : Int)) (256 : Int))), Value.int IntKind.u8 (IntKind.wrap IntKind.u8 (ari BinOp.quo IntKind.i64 ((((ByteArray.size (encS P o n (0 : Nat) cs #[])) : Nat) : Int)) (256 : Int)))] ++ encS P o n (0 : Nat) cs #[]))) : Int))) with | SB.l b => b | SB.o b => b) == true) = false → false = true)))))) ∧ ((greatV n q cs o == false) = false → true = true)) := by kernel_rfl
theorem jb_e0 (P : Int) (q b : ByteArray) : (run EB 1000 0 (jbC P (.f .e0) q b) M0).vc (boolR true) (fun _ _ => False) =
    (((decide ((6000 : Nat) < ByteArray.size q) == false) = true → (decide (((((ByteArray.size b) : Nat) : Int)) > (6000 : Int)) = true → true = true) ∧ (decide (((((ByteArray.size b) : Nat) : Int)) > (6000 : Int)) = false → ((decide (P < (1 : Int)) == false) = true → ((decide (P > (64 : Int)) == false) = true → (ByteArray.size b < (9223372036854775807 : Nat) ∧ True) ∧ (ByteArray.size b < (9223372036854775807 : Nat) ∧ True) ∧ (((↑(sumN b (ByteArray.size b)) : Int) != (↑(sumN b (ByteArray.size b)) : Int)) = true → false = true) ∧ (((↑(sumN b (ByteArray.size b)) : Int) != (↑(sumN b (ByteArray.size b)) : Int)) = false → true = true)) ∧ ((decide (P > (64 : Int)) == false) = false → (ByteArray.size b < (9223372036854775807 : Nat) ∧ True) ∧ (ByteArray.size b < (9223372036854775807 : Nat) ∧ True) ∧ (((↑(sumN b (ByteArray.size b)) : Int) != (↑(sumN b (ByteArray.size b)) : Int)) = true → false = true) ∧ (((↑(sumN b (ByteArray.size b)) : Int) != (↑(sumN b (ByteArray.size b)) : Int)) = false → true = true))) ∧ ((decide (P < (1 : Int)) == false) = false → (ByteArray.size b < (9223372036854775807 : Nat) ∧ True) ∧ (ByteArray.size b < (9223372036854775807 : Nat) ∧ True) ∧ (((↑(sumN b (ByteArray.size b)) : Int) != (↑(sumN b (ByteArray.size b)) : Int)) = true → false = true) ∧ (((↑(sumN b (ByteArray.size b)) : Int) != (↑(sumN b (ByteArray.size b)) : Int)) = false → true = true)))) ∧ ((decide ((6000 : Nat) < ByteArray.size q) == false) = false → true = true)) := by kernel_rfl
end Go.Proofs.Ytapkbgccbmjfaaa
/- Of journal: the known journal. No condition. -/
namespace Go.Proofs.Ytapkbgccbmjfaaa
set_option maxRecDepth 100000
theorem wakes_vc (r : Bool) : (run E0 1000000 0 [callFr 9 Try.f9.ntmps [] (Try.f9.body.getD .skip)] ⟨0, .nil, []⟩).vc (boolR r) (fun _ _ => False) =
    (((6 : Int) ≤ (9223372036854775807 : Int) ∧ True) ∧ ((9 : Int) ≤ (9223372036854775807 : Int) ∧ True) ∧ ((9 : Int) ≤ (9223372036854775807 : Int) ∧ True) ∧ ((13 : Int) ≤ (9223372036854775807 : Int) ∧ True) ∧ ((9 : Int) ≤ (9223372036854775807 : Int) ∧ True) ∧ ((13 : Int) ≤ (9223372036854775807 : Int) ∧ True) ∧ ((3 : Int) ≤ (9223372036854775807 : Int) ∧ True) ∧ ((7 : Int) ≤ (9223372036854775807 : Int) ∧ True) ∧ ((7 : Int) ≤ (9223372036854775807 : Int) ∧ True) ∧ ((20 : Int) ≤ (9223372036854775807 : Int) ∧ True) ∧ ((9 : Int) ≤ (9223372036854775807 : Int) ∧ True) ∧ ((13 : Int) ≤ (9223372036854775807 : Int) ∧ True) ∧ ((7 : Int) ≤ (9223372036854775807 : Int) ∧ True) ∧ ((7 : Int) ≤ (9223372036854775807 : Int) ∧ True) ∧ ((21 : Int) ≤ (9223372036854775807 : Int) ∧ True) ∧ ((9 : Int) ≤ (9223372036854775807 : Int) ∧ True) ∧ ((13 : Int) ≤ (9223372036854775807 : Int) ∧ True) ∧ ((7 : Int) ≤ (9223372036854775807 : Int) ∧ True) ∧ ((7 : Int) ≤ (9223372036854775807 : Int) ∧ True) ∧ ((21 : Int) ≤ (9223372036854775807 : Int) ∧ True) ∧ ((9 : Int) ≤ (9223372036854775807 : Int) ∧ True) ∧ ((13 : Int) ≤ (9223372036854775807 : Int) ∧ True) ∧ ((7 : Int) ≤ (9223372036854775807 : Int) ∧ True) ∧ ((7 : Int) ≤ (9223372036854775807 : Int) ∧ True) ∧ ((2166136261 : Int) == (2166136261 : Int)) = r) := by kernel_rfl
end Go.Proofs.Ytapkbgccbmjfaaa
/- Of journal: Encode of a script that came in, without picks: its states. No condition. -/
namespace Go.Proofs.Ytapkbgccbmjfaaa
noncomputable section
def rdM3 (_v : Bool) (cs bs : Array Value) (ty ty' : TypeId) : SMem := ⟨2, ((Tr.nil : Tr SBlk).set 0 (some ⟨.raw cs, ty, false⟩)).set 1 (some ⟨.raw bs, ty', false⟩), []⟩
section
variable (v w : Bool) (P : Int) (o n k' : Nat) (cs bs : Array Value) (ty ty' : TypeId)
def xR : Tree := gR EV 2 (encC P (slC 0 o n) (pkC w k')) (rdM3 v cs bs ty ty')
def xF0 : List SFr := (xR v w P o n k' cs bs ty ty').fsE.map SFr.bare
def xM0 : SMem := (xR v w P o n k' cs bs ty ty').memE.bare
def xF1 (i : Int) (k : Nat) : List SFr := setSl [(21, i64 (.o i)), (4, .s (.c (.f (.slice 4 (.l 0) (.o k) (.full 1)))))] (dropSl [17] (xF0 v w P o n k' cs bs ty ty'))
def xM1 (vs : Array Value) : SMem := putAll [(4, .pop vs)] (xM0 v w P o n k' cs bs ty ty')
def xS0 : Tree := stepT EV.go (run EV 1000) 2 (headF (xF0 v w P o n k' cs bs ty ty')) (xM0 v w P o n k' cs bs ty ty')
def xS1 (i : Int) (k : Nat) (vs : Array Value) : Tree := stepT EV.go (run EV 1000) 2 (headF (xF1 v w P o n k' cs bs ty ty' i k)) (xM1 v w P o n k' cs bs ty ty' vs)
def xN0 (fs : List SFr) (m : SMem) : Prop := subOk 2 (idFrom 2 (xM0 v w P o n k' cs bs ty ty').next) (xF0 v w P o n k' cs bs ty ty') (xM0 v w P o n k' cs bs ty ty') fs m
def xN1 (Q : Int → Nat → Array Value → Prop) (fs : List SFr) (m : SMem) : Prop := match fs with
  | f :: _ => match rdI f 21, rdS f 4 m with
    | some i, some (some (sid, k, vs)) => Q i k vs ∧ subOk 2 [(2, 2), (3, 3), (4, sid)] (headF (xF1 v w P o n k' cs bs ty ty' i k)) (xM1 v w P o n k' cs bs ty ty' vs) fs m
    | _, _ => False
  | [] => False
end
def xT0 : List SIt := headTd (xF0 true false 0 0 0 0 #[] #[] 0 0)
def xH0 : List SIt := headTd (headF (xF0 true false 0 0 0 0 #[] #[] 0 0))
end
end Go.Proofs.Ytapkbgccbmjfaaa
/- Of journal: that Encode's rounds, as propositions. No condition. -/
namespace Go.Proofs.Ytapkbgccbmjfaaa
set_option maxRecDepth 100000
theorem xn_start (P : Int) (o n k' : Nat) (cs bs : Array Value) (ty ty' : TypeId) (ok : Bool) (e : ByteArray) : (xR true false P o n k' cs bs ty ty').vc (encA ok e) (xN0 true false P o n k' cs bs ty ty') =
    (((decide (P < (1 : Int)) == false) = true → ((decide (P > (64 : Int)) == false) = true → ((decide ((↑n : Int) < (1 : Int)) == false) = true → ((decide ((↑n : Int) > (8 : Int)) == false) = true → (rowOk true cs o n ∧ True) ∧ (((!anyV true cs o n) == true) = true → CallKind.normal = CallKind.normal ∧ TodoOk (ren 2 [(2, 2), (3, 3), (4, 4)]) xT0 xT0 ∧ P = P ∧ o = o ∧ n = n ∧ Value.slice none (0 : Nat) (0 : Nat) = Value.slice none (0 : Nat) (0 : Nat) ∧ P = P ∧ o = o ∧ n = n ∧ Value.slice none (0 : Nat) (0 : Nat) = Value.slice none (0 : Nat) (0 : Nat) ∧ (↑n : Int) = (↑n : Int) ∧ P = P ∧ o = o ∧ n = n ∧ Value.string (ByteArray.mk #[]) = Value.string (ByteArray.mk #[]) ∧ IntKind.wrap IntKind.u8 (↑n : Int) = IntKind.wrap IntKind.u8 (↑n : Int) ∧ IntKind.wrap IntKind.u8 P = IntKind.wrap IntKind.u8 P ∧ (↑n : Int) = (↑n : Int) ∧ o = o ∧ n = n ∧ ty = ty ∧ cs = cs ∧ ty' = ty' ∧ bs = bs ∧ (32 : Nat) = (32 : Nat) ∧ P = P ∧ o = o ∧ n = n ∧ Value.slice none (0 : Nat) (0 : Nat) = Value.slice none (0 : Nat) (0 : Nat) ∧ (32 : Nat) = (32 : Nat) ∧ P = P ∧ o = o ∧ n = n ∧ Value.slice none (0 : Nat) (0 : Nat) = Value.slice none (0 : Nat) (0 : Nat) ∧ (5 : Nat) = (5 : Nat) ∧ IntKind.wrap IntKind.u8 P = IntKind.wrap IntKind.u8 P ∧ IntKind.wrap IntKind.u8 (↑n : Int) = IntKind.wrap IntKind.u8 (↑n : Int) ∧ True) ∧ (((!anyV true cs o n) == true) = false → ok = false ∧ StrIs (ByteArray.mk #[]) ByteArray.empty ∧ (3 : Int) = (3 : Int))) ∧ ((decide ((↑n : Int) > (8 : Int)) == false) = false → ok = false ∧ StrIs (ByteArray.mk #[]) ByteArray.empty ∧ (3 : Int) = (3 : Int))) ∧ ((decide ((↑n : Int) < (1 : Int)) == false) = false → ok = false ∧ StrIs (ByteArray.mk #[]) ByteArray.empty ∧ (3 : Int) = (3 : Int))) ∧ ((decide (P > (64 : Int)) == false) = false → ok = false ∧ StrIs (ByteArray.mk #[]) ByteArray.empty ∧ (3 : Int) = (3 : Int))) ∧ ((decide (P < (1 : Int)) == false) = false → ok = false ∧ StrIs (ByteArray.mk #[]) ByteArray.empty ∧ (3 : Int) = (3 : Int))) := by kernel_rfl
theorem xn_first (P : Int) (o n k' : Nat) (cs bs : Array Value) (ty ty' : TypeId) (ok : Bool) (e : ByteArray) (Q : Int → Nat → Array Value → Prop) : (xS0 true false P o n k' cs bs ty ty').vc (encA ok e) (xN1 true false P o n k' cs bs ty ty' Q) =
    ((decide ((0 : Int) < (↑n : Int)) = true → (((0 : Int) ≤ (0 : Int) ∧ (0 : Int) < (↑n : Int)) ∧ True) ∧ (cs[o]? = some (Value.string (strAt cs o)) ∧ True) ∧ ((((3 : Nat) + ByteArray.size (strAt cs o)) * 1 ≤ (140737488355328 : Nat) ∧ (3 : Nat) + ByteArray.size (strAt cs o) ≤ (140737488355328 : Nat)) ∧ True) ∧ Q (1 : Int) ((3 : Nat) + ByteArray.size (strAt cs o)) (#[Value.int IntKind.u8 (IntKind.wrap IntKind.u8 P), Value.int IntKind.u8 (IntKind.wrap IntKind.u8 (↑n : Int)), Value.int IntKind.u8 (IntKind.wrap IntKind.u8 (ari BinOp.quo IntKind.i64 ((((ByteArray.size (strAt cs o)) : Nat) : Int)) (6 : Int)))] ++ Array.map (fun b => Value.int IntKind.u8 (↑(UInt8.toNat b) : Int)) (ByteArray.data (strAt cs o))) ∧ CallKind.normal = CallKind.normal ∧ TodoOk (ren 2 [(2, 2), (3, 3), (4, 7)]) xH0 xH0 ∧ P = P ∧ o = o ∧ n = n ∧ Value.slice none (0 : Nat) (0 : Nat) = Value.slice none (0 : Nat) (0 : Nat) ∧ P = P ∧ o = o ∧ n = n ∧ Value.slice none (0 : Nat) (0 : Nat) = Value.slice none (0 : Nat) (0 : Nat) ∧ (↑n : Int) = (↑n : Int) ∧ P = P ∧ o = o ∧ n = n ∧ (1 : Int) = (1 : Int) ∧ Value.string (ByteArray.mk #[]) = Value.string (ByteArray.mk #[]) ∧ (3 : Nat) + ByteArray.size (strAt cs o) = (3 : Nat) + ByteArray.size (strAt cs o) ∧ IntKind.wrap IntKind.u8 (↑n : Int) = IntKind.wrap IntKind.u8 (↑n : Int) ∧ IntKind.wrap IntKind.u8 P = IntKind.wrap IntKind.u8 P ∧ (↑n : Int) = (↑n : Int) ∧ o = o ∧ n = n ∧ ty = ty ∧ cs = cs ∧ ty' = ty' ∧ bs = bs ∧ (32 : Nat) = (32 : Nat) ∧ P = P ∧ o = o ∧ n = n ∧ Value.slice none (0 : Nat) (0 : Nat) = Value.slice none (0 : Nat) (0 : Nat) ∧ (32 : Nat) = (32 : Nat) ∧ P = P ∧ o = o ∧ n = n ∧ Value.slice none (0 : Nat) (0 : Nat) = Value.slice none (0 : Nat) (0 : Nat) ∧ (5 : Nat) = (5 : Nat) ∧ #[Value.int IntKind.u8 (IntKind.wrap IntKind.u8 P), Value.int IntKind.u8 (IntKind.wrap IntKind.u8 (↑n : Int)), Value.int IntKind.u8 (IntKind.wrap IntKind.u8 (ari BinOp.quo IntKind.i64 ((((ByteArray.size (strAt cs o)) : Nat) : Int)) (6 : Int)))] ++ Array.map (fun b => Value.int IntKind.u8 (↑(UInt8.toNat b) : Int)) (ByteArray.data (strAt cs o)) = #[Value.int IntKind.u8 (IntKind.wrap IntKind.u8 P), Value.int IntKind.u8 (IntKind.wrap IntKind.u8 (↑n : Int)), Value.int IntKind.u8 (IntKind.wrap IntKind.u8 (ari BinOp.quo IntKind.i64 ((((ByteArray.size (strAt cs o)) : Nat) : Int)) (6 : Int)))] ++ Array.map (fun b => Value.int IntKind.u8 (↑(UInt8.toNat b) : Int)) (ByteArray.data (strAt cs o)) ∧ True) ∧ (decide ((0 : Int) < (↑n : Int)) = false → ok = true ∧ StrIs (strOf [Value.int IntKind.u8 (IntKind.wrap IntKind.u8 P), Value.int IntKind.u8 (IntKind.wrap IntKind.u8 (↑n : Int))]) e ∧ (0 : Int) = (0 : Int))) := by kernel_rfl
theorem xn_step (P : Int) (o n k' : Nat) (cs bs : Array Value) (ty ty' : TypeId) (ok : Bool) (e : ByteArray) (i : Int) (k : Nat) (vs : Array Value) (Q : Int → Nat → Array Value → Prop) : (xS1 true false P o n k' cs bs ty ty' i k vs).vc (encA ok e) (xN1 true false P o n k' cs bs ty ty' Q) =
    ((decide (i < (↑n : Int)) = true → (((0 : Int) ≤ i ∧ i < (↑n : Int)) ∧ True) ∧ (cs[o + Int.toNat i * 1]? = some (Value.string (strAt cs (o + Int.toNat i * 1))) ∧ True) ∧ (((k + 1) * 1 ≤ (140737488355328 : Nat) ∧ k + 1 ≤ (140737488355328 : Nat)) ∧ k * 1 = Array.size vs ∧ True) ∧ (((k + 1 + ByteArray.size (strAt cs (o + Int.toNat i * 1))) * 1 ≤ (140737488355328 : Nat) ∧ k + 1 + ByteArray.size (strAt cs (o + Int.toNat i * 1)) ≤ (140737488355328 : Nat)) ∧ (k + 1) * 1 = Array.size (vs ++ #[Value.int IntKind.u8 (IntKind.wrap IntKind.u8 (ari BinOp.quo IntKind.i64 ((((ByteArray.size (strAt cs (o + Int.toNat i * 1))) : Nat) : Int)) (6 : Int)))]) ∧ True) ∧ Q (ari BinOp.add IntKind.i64 i (1 : Int)) (k + 1 + ByteArray.size (strAt cs (o + Int.toNat i * 1))) (vs ++ #[Value.int IntKind.u8 (IntKind.wrap IntKind.u8 (ari BinOp.quo IntKind.i64 ((((ByteArray.size (strAt cs (o + Int.toNat i * 1))) : Nat) : Int)) (6 : Int)))] ++ Array.map (fun b => Value.int IntKind.u8 (↑(UInt8.toNat b) : Int)) (ByteArray.data (strAt cs (o + Int.toNat i * 1)))) ∧ CallKind.normal = CallKind.normal ∧ TodoOk (ren 2 [(2, 2), (3, 3), (4, 7)]) xH0 xH0 ∧ P = P ∧ o = o ∧ n = n ∧ Value.slice none (0 : Nat) (0 : Nat) = Value.slice none (0 : Nat) (0 : Nat) ∧ P = P ∧ o = o ∧ n = n ∧ Value.slice none (0 : Nat) (0 : Nat) = Value.slice none (0 : Nat) (0 : Nat) ∧ (↑n : Int) = (↑n : Int) ∧ P = P ∧ o = o ∧ n = n ∧ ari BinOp.add IntKind.i64 i (1 : Int) = ari BinOp.add IntKind.i64 i (1 : Int) ∧ Value.string (ByteArray.mk #[]) = Value.string (ByteArray.mk #[]) ∧ k + 1 + ByteArray.size (strAt cs (o + Int.toNat i * 1)) = k + 1 + ByteArray.size (strAt cs (o + Int.toNat i * 1)) ∧ IntKind.wrap IntKind.u8 (↑n : Int) = IntKind.wrap IntKind.u8 (↑n : Int) ∧ IntKind.wrap IntKind.u8 P = IntKind.wrap IntKind.u8 P ∧ (↑n : Int) = (↑n : Int) ∧ o = o ∧ n = n ∧ ty = ty ∧ cs = cs ∧ ty' = ty' ∧ bs = bs ∧ (32 : Nat) = (32 : Nat) ∧ P = P ∧ o = o ∧ n = n ∧ Value.slice none (0 : Nat) (0 : Nat) = Value.slice none (0 : Nat) (0 : Nat) ∧ (32 : Nat) = (32 : Nat) ∧ P = P ∧ o = o ∧ n = n ∧ Value.slice none (0 : Nat) (0 : Nat) = Value.slice none (0 : Nat) (0 : Nat) ∧ (5 : Nat) = (5 : Nat) ∧ vs ++ #[Value.int IntKind.u8 (IntKind.wrap IntKind.u8 (ari BinOp.quo IntKind.i64 ((((ByteArray.size (strAt cs (o + Int.toNat i * 1))) : Nat) : Int)) (6 : Int)))] ++ Array.map (fun b => Value.int IntKind.u8 (↑(UInt8.toNat b) : Int)) (ByteArray.data (strAt cs (o + Int.toNat i * 1))) = vs ++ #[Value.int IntKind.u8 (IntKind.wrap IntKind.u8 (ari BinOp.quo IntKind.i64 ((((ByteArray.size (strAt cs (o + Int.toNat i * 1))) : Nat) : Int)) (6 : Int)))] ++ Array.map (fun b => Value.int IntKind.u8 (↑(UInt8.toNat b) : Int)) (ByteArray.data (strAt cs (o + Int.toNat i * 1))) ∧ True) ∧ (decide (i < (↑n : Int)) = false → ((0 : Nat) + k ≤ Array.size vs ∧ AllU8 (Array.extract vs (0 : Nat) ((0 : Nat) + k)).1 ∧ True) ∧ ok = true ∧ StrIs (strOf (Array.toList (Array.extract vs (0 : Nat) ((0 : Nat) + k)))) e ∧ (0 : Int) = (0 : Int))) := by kernel_rfl
theorem xn_no (P : Int) (o n k' : Nat) (cs bs : Array Value) (ty ty' : TypeId) (ok : Bool) (e : ByteArray) : (xR true false P o n k' cs bs ty ty').vc (encA ok e) (fun _ _ => False) =
    (((decide (P < (1 : Int)) == false) = true → ((decide (P > (64 : Int)) == false) = true → ((decide ((↑n : Int) < (1 : Int)) == false) = true → ((decide ((↑n : Int) > (8 : Int)) == false) = true → (rowOk true cs o n ∧ True) ∧ (((!anyV true cs o n) == true) = true → False) ∧ (((!anyV true cs o n) == true) = false → ok = false ∧ StrIs (ByteArray.mk #[]) ByteArray.empty ∧ (3 : Int) = (3 : Int))) ∧ ((decide ((↑n : Int) > (8 : Int)) == false) = false → ok = false ∧ StrIs (ByteArray.mk #[]) ByteArray.empty ∧ (3 : Int) = (3 : Int))) ∧ ((decide ((↑n : Int) < (1 : Int)) == false) = false → ok = false ∧ StrIs (ByteArray.mk #[]) ByteArray.empty ∧ (3 : Int) = (3 : Int))) ∧ ((decide (P > (64 : Int)) == false) = false → ok = false ∧ StrIs (ByteArray.mk #[]) ByteArray.empty ∧ (3 : Int) = (3 : Int))) ∧ ((decide (P < (1 : Int)) == false) = false → ok = false ∧ StrIs (ByteArray.mk #[]) ByteArray.empty ∧ (3 : Int) = (3 : Int))) := by kernel_rfl
end Go.Proofs.Ytapkbgccbmjfaaa
/- Of journal: Encode of a script that came in, without picks. No condition. -/
namespace Go.Proofs.Ytapkbgccbmjfaaa
set_option linter.unusedSectionVars false
set_option maxRecDepth 100000
theorem xT0_ok : TodoOk (ren 2 [(2, 2), (3, 3), (4, 4)]) xT0 xT0 := TodoOk.same (by kernel_rfl)
theorem xH0_7 : TodoOk (ren 2 [(2, 2), (3, 3), (4, 7)]) xH0 xH0 := TodoOk.same (by kernel_rfl)
theorem xN1_good {v w : Bool} {P : Int} {o n k' : Nat} {cs bs : Array Value} {ty ty' : TypeId} {A : SV → SMem → Prop} {Q : Int → Nat → Array Value → Prop} (hg : ∀ i k vs, Q i k vs → Good EV.P A 2 (headF (xF1 v w P o n k' cs bs ty ty' i k)) (xM1 v w P o n k' cs bs ty ty' vs)) {fs : List SFr} {m : SMem} (hb : xN1 v w P o n k' cs bs ty ty' Q fs m) : Good EV.P A 2 fs m := by
  unfold xN1 at hb
  split at hb
  · split at hb
    · exact Good.of_sub hb.2 (hg _ _ _ hb.1)
    · exact hb.elim
  · exact hb.elim
theorem xN0_good {v w : Bool} {P : Int} {o n k' : Nat} {cs bs : Array Value} {ty ty' : TypeId} {A : SV → SMem → Prop} (hg : Good EV.P A 2 (headF (xF0 v w P o n k' cs bs ty ty')) (xM0 v w P o n k' cs bs ty ty')) {fs : List SFr} {m : SMem} (hb : xN0 v w P o n k' cs bs ty ty' fs m) : Good EV.P A 2 fs m :=
  Good.of_sub hb (Good.head hg)
section
variable (P : Int) (o n k' : Nat) (cs bs : Array Value) (ty ty' : TypeId)
theorem xn_round (hS : StrOk cs o n) (hB : BytOk bs 0 k') (hk0 : false = false → k' = 0) (hm : mayS P o n k' cs bs = true) :
    ∀ (K j : Nat), n - j < K → 1 ≤ j → j ≤ n → Good EV.P (encA true (encS P o n k' cs bs)) 2 (headF (xF1 true false P o n k' cs bs ty ty' (j : Int) (progA P n cs o j).size)) (xM1 true false P o n k' cs bs ty ty' (progA P n cs o j)) := by
  unfold mayS at hm
  rw [Bool.and_eq_true, Bool.and_eq_true, decide_eq_true_eq, Bool.not_eq_true', Bool.not_eq_true'] at hm
  obtain ⟨⟨⟨p1, p2, p3, p4, p5⟩, p6⟩, p7⟩ := hm
  intro K
  induction K with
  | zero => intro j h; omega
  | succ K ih =>
    intro j hk hj1 hj
    have hpre : anyS cs o j = false := anyS_at.2 fun t ht => anyS_at.1 p6 t (by omega)
    have hsz := progA_le (P := P) (n := n) hpre
    refine past_vc EV_ok 1000 (xn_step P o n k' cs bs ty ty' true _ (j : Int) (progA P n cs o j).size (progA P n cs o j) (fun i' k vs => ∃ t : Nat, i' = t ∧ k = (progA P n cs o t).size ∧ vs = progA P n cs o t ∧ n - t < K ∧ 1 ≤ t ∧ t ≤ n)) ?_ (fun _ _ h => h)
      (fun fs m hb => xN1_good (fun i' k vs ⟨t, e1, e2, e3, k1, k2, k3⟩ => by rw [e1, e2, e3]; exact ih t k1 k2 k3) hb)
    rw [Int.toNat_natCast, Nat.mul_one]
    refine ⟨fun h => ?_, fun h => ?_⟩
    · have hlt : j < n := by simpa using h
      obtain ⟨i1, i2⟩ := hS.2 j hlt
      have hd := (decOk_size (anyS_at.1 p6 j hlt)).2
      have eA : ari BinOp.add IntKind.i64 (j : Int) 1 = ((j + 1 : Nat) : Int) := by rw [ari_add, i64_nat (show j < 9223372036854775807 by omega)]
      rw [eA]
      refine ⟨⟨⟨by omega, by omega⟩, trivial⟩, ⟨i1, trivial⟩, ⟨⟨by omega, by omega⟩, by omega, trivial⟩, ⟨⟨by omega, by omega⟩, ?_, trivial⟩, ⟨j + 1, rfl, (progA_succ ..).symm, rfl, by omega, by omega, by omega⟩, ?_⟩
      · rw [Array.size_append, Nat.mul_one]; rfl
      · repeat' first | exact trivial | exact xH0_7 | apply And.intro | exact rfl
    · have h1 : ¬ j < n := by simpa using h
      have hjn : j = n := by omega
      rw [hjn]
      rw [hjn] at hsz
      have h0 : k' = 0 := hk0 rfl
      rw [Nat.zero_add, Array.extract_size]
      refine ⟨⟨Nat.le_refl _, progA_u8 P n cs o n, trivial⟩, rfl, ?_, rfl⟩
      show strOf _ = encS P o n k' cs bs
      unfold encS
      rw [h0, Array.extract_zero, Array.append_empty]
theorem xn_good (hS : StrOk cs o n) (hB : BytOk bs 0 k') (hk0 : false = false → k' = 0) (hn : n < 9223372036854775807) : Good Try.prog (encA (mayS P o n k' cs bs) (encS P o n k' cs bs)) 2 (encC P (slC 0 o n) (pkC false k')) (rdM3 true cs bs ty ty') := by
  cases hm : mayS P o n k' cs bs with
  | true =>
    have hm' := hm
    unfold mayS at hm'
    rw [Bool.and_eq_true, Bool.and_eq_true, decide_eq_true_eq, Bool.not_eq_true', Bool.not_eq_true'] at hm'
    obtain ⟨⟨⟨p1, p2, p3, p4, p5⟩, p6⟩, p7⟩ := hm'
    have first : Good EV.P (encA true (encS P o n k' cs bs)) 2 (headF (xF0 true false P o n k' cs bs ty ty')) (xM0 true false P o n k' cs bs ty ty') := by
      refine past_vc EV_ok 1000 (xn_first P o n k' cs bs ty ty' true _ (fun i' k vs => i' = ((1 : Nat) : Int) ∧ k = (progA P n cs o 1).size ∧ vs = progA P n cs o 1)) ?_ (fun _ _ h => h)
        (fun fs m hb => xN1_good (fun i' k vs ⟨e1, e2, e3⟩ => by rw [e1, e2, e3]; exact xn_round P o n k' cs bs ty ty' hS hB hk0 hm (n + 1) 1 (by omega) (by omega) (by omega)) hb)
      have hd := (decOk_size (anyS_at.1 p6 0 (by omega))).2
      obtain ⟨i1, i2⟩ := hS.2 0 (by omega)
      rw [Nat.add_zero] at hd i1
      refine ⟨fun h => ?_, fun h => ?_⟩
      · refine ⟨⟨⟨by omega, by omega⟩, trivial⟩, ⟨i1, trivial⟩, ⟨⟨by omega, by omega⟩, trivial⟩, ⟨rfl, ?_, rfl⟩, ?_⟩
        · rw [progA_succ]
          rfl
        · repeat' first | exact trivial | exact xH0_7 | apply And.intro | exact rfl
      · have h1 : ¬ 0 < n := by simpa using h
        omega
    refine run_vc EV_ok 1000 (xn_start P o n k' cs bs ty ty' true _) ?_ (fun _ _ h => h) (fun fs m hb => xN0_good first hb)
    have d1 : decide (P < 1) = false := decide_eq_false (by omega)
    have d2 : decide (P > 64) = false := decide_eq_false (by omega)
    have d3 : decide ((n : Int) < 1) = false := decide_eq_false (by omega)
    have d4 : decide ((n : Int) > 8) = false := decide_eq_false (by omega)
    have d5 : decide ((k' : Int) > 4000) = false := decide_eq_false (by omega)
    simp only [d1, d2, d3, d4, d5, anyV_t, anyV_f, p6, p7, beq_self_eq_true, Bool.not_false, Bool.not_true, Bool.true_eq_false, Bool.false_eq_true, false_implies, true_implies, reduceCtorEq]
    repeat' first | exact trivial | exact hS | exact hB | exact xT0_ok | apply And.intro | exact rfl
  | false =>
    refine run_vc EV_ok 1000 (xn_no P o n k' cs bs ty ty' false _) ?_ (fun _ _ h => h) (fun fs m hb => hb.elim)
    repeat' first | exact trivial | exact hS | exact hB | exact rfl | apply And.intro | intro _
    all_goals
      exfalso
      have e0 : anyB bs 0 k' = false := by rw [hk0 rfl]; rfl
      have hk4 : k' ≤ 4000 := by have := hk0 rfl; omega
      clear hk0 hB
      simp_all [mayS, anyV]
      try omega
end
end Go.Proofs.Ytapkbgccbmjfaaa
/- Of journal: the contracts hold; JournalBegins' runs end with true. No condition. -/
namespace Go.Proofs.Ytapkbgccbmjfaaa
set_option linter.unusedSectionVars false
set_option linter.unusedVariables false
set_option maxRecDepth 100000
theorem celA_none : celA .empty = #[] := Array.eq_empty_of_size_eq_zero (by unfold celA; rw [Array.size_map]; rfl)
theorem none_size : ByteArray.empty.size = 0 := rfl
theorem encN_con {P : Int} {i : Nat} {o n : SN} {c : SK} {m : SMem} {cs : Array Value} {v : Bool} (hr : rowV m i = some (v, cs)) (r : Bool) (s0 : SV) (hm : mayS P o.den n.den 0 cs #[] = r) (hs : ∀ s m' R R' v, encA r (encS P o.den n.den 0 cs #[]) s m' → s.ok R' v → s0.ok R v) : Con E0 24 [.s (.agg (.ls [.f (.int .i64 (.o P)), .f (.slice i o n c), nilC]))] m (needs [StrOk cs o.den n.den] (.ret s0 m)) := by
  obtain ⟨ty, wr, hb⟩ := rowV_of hr
  have args : ∀ R vs, All2 (SV.ok R) [.s (.agg (.ls [.f (.int .i64 (.o P)), .f (.slice i o n c), nilC]))] vs → All2 (SV.ok (pull (fun _ => i) 2 R)) [scV P (slC 0 o.den n.den) (pkC false 0)] vs := fun R vs ha => by
    match vs, ha with
    | [u], ha => exact ⟨agg3 ha.1 (fun _ h => h) (fun _ h => sl_pull h l02 rfl rfl) (fun _ h => h), trivial⟩
  cases v with
  | true =>
    refine Con.ro E0_ok (l' := [scV P (slC 0 o.den n.den) (pkC false 0)]) (ms := rdM3 true cs cs ty ty) (A := encA r (encS P o.den n.den 0 cs #[])) fn7 body7 rfl (fun _ => i) ?_ args (fun hq => ?_) hs
    · intro x b hx
      rcases get2 hx with ⟨rfl, rfl⟩ | ⟨rfl, rfl⟩
      · exact ⟨l02, rfl, _, hb, rfl, fun R cs' h => h⟩
      · exact ⟨l12, rfl, _, hb, rfl, fun R cs' h => h⟩
    · have hS : StrOk cs o.den n.den := hq _ (by simp)
      have hg := xn_good P o.den n.den 0 cs cs ty ty hS ⟨by omega, fun j hj => by omega⟩ (fun _ => rfl) hS.1
      have e1 : mayS P o.den n.den 0 cs cs = mayS P o.den n.den 0 cs #[] := rfl
      rw [e1, hm, encS_nil] at hg
      exact hg
  | false =>
    refine Con.ro E0_ok (l' := [scV P (slC 0 o.den n.den) (pkC false 0)]) (ms := rdM2 false cs #[] ty ty) (A := encA r (encS P o.den n.den 0 cs #[])) fn7 body7 rfl (fun _ => i) ?_ args (fun hq => ?_) hs
    · intro x b hx
      rcases get2 hx with ⟨rfl, rfl⟩ | ⟨rfl, rfl⟩
      · exact ⟨l02, rfl, _, hb, rfl, fun R cs' h => h⟩
      · refine ⟨l12, rfl, _, hb, rfl, fun R cs' h => ?_⟩
        have h : cs'.toList.take cs.size = cs.toList ∧ ∀ v ∈ cs'.toList, v.oneCell' = true := h
        exact ⟨rfl, h.2⟩
    · have hS : StrOk cs o.den n.den := hq _ (by simp)
      exact hm ▸ en_good_ff P o.den n.den 0 cs #[] ty ty hS ⟨by omega, fun j hj => by omega⟩ (fun _ => rfl) hS.1
theorem encN_ok {m : SMem} {x : SV} {t : Tree} (h : encN m x = some t) : Con E0 24 [x] m t := by
  unfold encN at h
  split at h
  · rename_i P i o n c
    split at h
    · rename_i v cs hr
      cases h
      exact Con.br (fun hm => encN_con hr true _ hm fun _ _ _ _ _ => encA_yes) (fun hm => encN_con hr false _ hm fun _ _ _ _ _ => encA_no)
    · cases h
  · cases h
theorem lit_em {R R' : Ren} {u : Value} (h : (SF.lit (.string ⟨⟨[]⟩⟩)).ok R u) : (SF.opq (.string .empty)).ok R' u := ⟨h.1, rfl⟩
theorem mayE_ok {m : SMem} {x : SV} {t : Tree} (h : mayE m x = some t) : Con E0 14 [x] m t := by
  unfold mayE at h
  split at h
  · rename_i P i o n c
    split at h
    · rename_i v cs hr
      cases h
      obtain ⟨ty, wr, hb⟩ := rowV_of hr
      refine Con.ro E0_ok (l' := [refV P (slC 0 o.den n.den) .empty]) (ms := prM v cs ty) (A := boolR (mayS P o.den n.den 0 cs #[])) fnU9 bodyU9 rfl (fun _ => i) ?_ ?_ (fun hq => ?_) (fun _ _ _ _ _ => boolR_con)
      · intro j b hj
        obtain ⟨rfl, rfl⟩ := prM_get hj
        exact ⟨Nat.zero_lt_one, rfl, _, hb, rfl, fun R cs' h => prA_pull R cs' h⟩
      · intro R vs ha
        match vs, ha with
        | [u], ha => exact ⟨agg3 ha.1 (fun _ h => h) (fun _ h => sl_pull h Nat.zero_lt_one rfl rfl) (fun _ h => lit_em h), trivial⟩
      · have hg := m9_good P o.den n.den .empty cs ty v (hq _ (List.mem_cons_self ..))
        rw [celA_none, none_size] at hg
        exact hg
    · cases h
  · rename_i P
    cases h
    refine Con.ro E0_ok (l' := [refV P (.f .e0) .empty]) (ms := M0) (q := []) (A := boolR false) fnU9 bodyU9 rfl (fun i => i) no_blocks (fun R vs ha => ?_) (fun _ => m9_none P .empty _ (.inr rfl)) (fun s m' R R' v h hv => ?_)
    · match vs, ha with
      | [u], ha => exact ⟨agg3 ha.1 (fun _ h => h) (fun _ h => h) (fun _ h => lit_em h), trivial⟩
    · unfold boolR at h
      split at h
      · rename_i x
        have hv : v = .bool x.den := hv
        rw [h] at hv
        exact hv
      · exact h.elim
  · exact m9T_ok h
theorem fn27b : E0.fn 27 = some Try.f27 := by kernel_rfl
theorem body27b : Try.f27.body = some (Try.f27.body.getD .skip) := by kernel_rfl
theorem bytE_ok {m : SMem} {x : SV} {t : Tree} (h : bytE m x = some t) : Con E0 27 [x] m t := by
  unfold bytE at h
  split at h
  · rename_i P i o n c
    split at h
    · rename_i cs hr
      cases h
      obtain ⟨ty, wr, hb⟩ := rowV_of hr
      refine Con.ro E0_ok (l' := [refV P (slC 0 o.den n.den) .empty]) (ms := prM true cs ty) (A := strQ (encS P o.den n.den 0 cs #[])) fn27b body27b rfl (fun _ => i) ?_ ?_ (fun hq => ?_) (fun _ _ _ _ _ => strQ_con)
      · intro j b hj
        obtain ⟨rfl, rfl⟩ := prM_get hj
        exact ⟨Nat.zero_lt_one, rfl, _, hb, rfl, fun R cs' h => h⟩
      · intro R vs ha
        match vs, ha with
        | [u], ha => exact ⟨agg3 ha.1 (fun _ h => h) (fun _ h => sl_pull h Nat.zero_lt_one rfl rfl) (fun _ h => lit_em h), trivial⟩
      · have hg := b11_good P o.den n.den .empty cs ty (hq _ (by simp))
        rw [celA_none, none_size] at hg
        exact hg (hq _ (by simp))
    · cases h
  · cases h
/-! The known journal. -/
theorem wakes_good : Good Try.prog (boolR true) 0 [callFr 9 Try.f9.ntmps [] (Try.f9.body.getD .skip)] M0 :=
  run_vc E0_ok 1000000 (wakes_vc true) (by repeat' first | exact trivial | exact rfl | decide | apply And.intro) (fun _ _ h => h) (fun _ _ h => h.elim)
theorem wakes_fn : E0.fn 9 = some Try.f9 := by kernel_rfl
theorem wakes_body : Try.f9.body = some (Try.f9.body.getD .skip) := by kernel_rfl
theorem wakes_con (m : SMem) : Con E0 9 [] m (needs [] (.ret (sB (.l true)) m)) :=
  Con.ro E0_ok (l := []) (l' := []) (ms := M0) (q := []) (A := boolR true) wakes_fn wakes_body rfl (fun i => i) no_blocks (fun R vs ha => by match vs, ha with | [], _ => trivial) (fun _ => wakes_good) (fun _ _ _ _ _ => boolR_lit)
theorem conB_ok (g : FuncId) (l : List SV) (m : SMem) (t : Tree) (h : conB g l m = some t) : Con E0 g l m t := by
  unfold conB at h
  split at h
  · cases h; exact wakes_con m
  · exact (sumT_ok h).1
  · exact (sumT_ok h).2
  · exact mayE_ok h
  · exact greatT_ok h
  · exact encN_ok h
  · exact smT_ok h
  · exact bytE_ok h
  · exact foT_ok h
  · cases h
theorem EB_ok : EnvOk EB := EnvOk.with E0_ok _ _ conB_ok
/-! Heads. -/
def magB : ByteArray := ByteArray.mk #[66, 76, 87, 75]
def twoB (z : Nat) : ByteArray := strOf [Value.int .u8 (IntKind.wrap .u8 (z : Int)), Value.int .u8 (IntKind.wrap .u8 (ari .shr .i64 (z : Int) 8))]
def twoR (z : Nat) : ByteArray := strOf [Value.int .u8 (IntKind.wrap .u8 (ari .rem .i64 (z : Int) 256)), Value.int .u8 (IntKind.wrap .u8 (ari .quo .i64 (z : Int) 256))]
theorem twoB_size (z : Nat) : (twoB z).size = 2 := strOf_size _
theorem two_eq {z : Nat} (h : z ≤ 1000000) : twoR z = twoB z := by
  unfold twoR twoB
  have e1 : IntKind.wrap .u8 (ari .rem .i64 (z : Int) 256) = IntKind.wrap .u8 (z : Int) := by
    rw [ari_rem, Int.tmod_eq_emod_of_nonneg (by omega), IntKind.wrap_u8, IntKind.wrap_u8]
    omega
  have e2 : ari .quo .i64 (z : Int) 256 = ari .shr .i64 (z : Int) 8 := by
    rw [ari_quo, ari_shr, Int.tdiv_eq_ediv_of_nonneg (by omega), Go.IntWalk.i64_in _ (by omega), Int.fdiv_eq_ediv_of_nonneg _ (by decide)]
    rfl
  rw [e1, e2]
theorem enc0_size {P : Int} {o n : Nat} {cs : Array Value} (hm : mayS P o n 0 cs #[] = true) : (encS P o n 0 cs #[]).size ≤ 4000 := by
  have hm' : mayS P o n ByteArray.empty.size cs (celA .empty) = true := by rw [celA_none, none_size]; exact hm
  obtain ⟨_, _, _, p4, p5, p6, _⟩ := may_facts P o n .empty cs hm'
  have h1 := x_size P o n .empty cs hm'
  have h2 := BLs_len P o n .empty cs hm' n
  have h3 := progA_le (P := P) (n := n) p6
  rw [celA_none, none_size] at h1
  omega
theorem jb_sum (x : Int) : ((x != x) = true → false = true) := by
  intro h
  simp at h
theorem app_none (X : ByteArray) : ByteArray.mk #[] ++ X = X := by
  apply ByteArray.ext
  rw [ByteArray.data_append]
  simp
theorem jb_good (P : Int) (o n : Nat) (q b : ByteArray) (cs : Array Value) (ty : TypeId) (hI : StrI cs o n) : Good Try.prog (boolR true) 1 (jbC P (slC 0 o n) q b) (prM true cs ty) := by
  refine run_vc EB_ok 1000 (jb_row P o n q b cs ty) ?_ (fun _ _ h => h) (fun _ _ h => h.elim)
  refine ⟨⟨hI, trivial⟩, fun hg => ⟨fun _ => rfl, fun h8 => ?_⟩, fun _ => rfl⟩
  have hg : greatV n q cs o = false := by simpa using hg
  have h8 : b.size ≤ 6000 := by have := of_decide_eq_false h8; omega
  obtain ⟨hS, _⟩ := great_facts hI hg
  have hR : StrR cs o n := by
    unfold greatV at hg
    rw [Bool.or_eq_false_iff, Bool.or_eq_false_iff, decide_eq_false_iff_not, decide_eq_false_iff_not] at hg
    obtain ⟨⟨h1, h2⟩, h3⟩ := hg
    exact ⟨by omega, fun j hj => ⟨hI.2 j hj, by have := anyG_at.1 h3 j hj; omega⟩⟩
  refine ⟨⟨hS, trivial⟩, fun hm => ?_, fun hm => ⟨⟨by omega, trivial⟩, ⟨by omega, trivial⟩, jb_sum _, fun _ => ⟨⟨hR, trivial⟩, fun _ => rfl, fun h => by rw [hm] at h; cases h⟩⟩⟩
  have hz := enc0_size hm
  generalize encS P o n 0 cs #[] = e at *
  have htr := two_eq (z := e.size) (by omega)
  have htz := twoB_size e.size
  unfold twoR at htr
  rw [htr, show strOf [Value.int .u8 (IntKind.wrap .u8 ((e.size : Nat) : Int)), Value.int .u8 (IntKind.wrap .u8 (ari .shr .i64 ((e.size : Nat) : Int) 8))] = twoB e.size from rfl]
  rw [show ByteArray.mk #[(66 : UInt8), (76 : UInt8), (87 : UInt8), (75 : UInt8)] = magB from rfl]
  have hX : smA (ByteArray.mk #[]) (magB ++ twoB e.size ++ e) = magB ++ twoB e.size ++ e ++ fourB (sumN (magB ++ twoB e.size ++ e) (magB ++ twoB e.size ++ e).size : Int) := by unfold smA; rw [app_none]
  rw [hX]
  have hm4 : magB.size = 4 := rfl
  have hf := fourB_size (sumN (magB ++ twoB e.size ++ e) (magB ++ twoB e.size ++ e).size : Int)
  rw [hf]
  simp only [ByteArray.size_append, htz, hm4]
  generalize magB ++ twoB e.size ++ e ++ fourB _ = F
  have hs : ((match mkSB (false && false) (ByteArray.toList F == ByteArray.toList F) with | SB.l b => b | SB.o b => b) == true) = true := same_str F
  refine ⟨⟨by omega, trivial⟩, ⟨by omega, trivial⟩, ⟨by omega, trivial⟩, ⟨by omega, trivial⟩, ⟨by omega, trivial⟩, jb_sum _, fun _ => ⟨⟨hR, trivial⟩, fun h => (by rw [hm] at h; cases h), fun _ => ⟨⟨hS, hm, trivial⟩, ⟨by omega, trivial⟩, ⟨by omega, trivial⟩, ⟨by omega, trivial⟩, ⟨by omega, trivial⟩, fun _ => by trivial, fun h => absurd (hs.symm.trans h) (by decide)⟩⟩⟩
theorem jb_good0 (P : Int) (q b : ByteArray) : Good Try.prog (boolR true) 0 (jbC P (.f .e0) q b) M0 := by
  refine run_vc EB_ok 1000 (jb_e0 P q b) ?_ (fun _ _ h => h) (fun _ _ h => h.elim)
  refine ⟨fun _ => ⟨fun _ => rfl, fun h8 => ?_⟩, fun _ => rfl⟩
  have h8 : b.size ≤ 6000 := by have := of_decide_eq_false h8; omega
  have hb : b.size < 9223372036854775807 := by omega
  repeat' first | exact trivial | exact hb | exact jb_sum _ | exact rfl | apply And.intro | intro _
end Go.Proofs.Ytapkbgccbmjfaaa
/- Of journal: whether picks may be, and what is read: contracts' trees, and states. No condition. -/
namespace Go.Proofs.Ytapkbgccbmjfaaa
noncomputable section
def resF : SV := .tup [.agg (.ls [.f (.int .i64 (.l 0)), nilC, .f (.lit (.string ⟨⟨[]⟩⟩))]), .c (.f (.bool (.l false)))]
def decT13 (m : SMem) : SV → Option Tree
  | .s (.c (.f (.opq (.string b)))) => some (needs [b.size < 140737488355328] (.br (okD b)
      (.ret ((resR (byteAt b 0) (numB b) (leftB b)).re (sh m.next)) (ins2 m (resM false (rowP b (numB b)) #[])))
      (.ret resF m)))
  | _ => none
def same2T (m : SMem) : SV → SV → Option Tree
  | .s (.agg (.ls [.f (.int .i64 (.o P)), .f (.slice i (.l 0) n _), .f (.slice j (.l 0) k _)])), .s (.agg (.ls [.f (.int .i64 (.o P')), .f (.slice i' o' n' _), .f (.opq (.string q))])) => match rowV m i, rowV m j, rowV m i' with
    | some (false, rs), some (false, bs), some (false, cs) => some (needs [P = P', n.den = n'.den, RowEq rs cs o'.den n.den, PickEq true k.den bs q] (.ret (sB (.l true)) m))
    | _, _, _ => none
  | .s (.agg (.ls [.f (.int .i64 (.o P)), .f (.slice i (.l 0) n _), .f (.lit (.slice none 0 0))])), .s (.agg (.ls [.f (.int .i64 (.o P')), .f (.slice i' o' n' _), .f (.opq (.string q))])) => match rowV m i, rowV m i' with
    | some (false, rs), some (false, cs) => some (needs [P = P', n.den = n'.den, RowEq rs cs o'.den n.den, PickEq false 0 #[] q] (.ret (sB (.l true)) m))
    | _, _ => none
  | _, _ => none
/-- Which bytes in a row are known as such. -/
def rowB (m : SMem) (i : Nat) : Option (Array Value) := match getB m.bl i with
  | some ⟨.op cs, _, _⟩ => some cs
  | some ⟨.pop cs, _, _⟩ => some cs
  | _ => none
def conP (g : FuncId) (l : List SV) (m : SMem) : Option Tree := match g, l with
  | 42, [x, .s (.c (.fn (.func 43) [] []))] => cfT false m x
  | _, _ => none
def EP : Env := ⟨Try.prog, fnOf, conP, fun _ _ _ => false⟩
def mpC (n : Nat) : List SFr := [callFr 32 Try.f32.ntmps [.s (.c (.f (.slice 0 (.l 0) (.o n) .any)))] (Try.f32.body.getD .skip)]
def mpT (m : SMem) : SV → Option Tree
  | .s (.c (.f (.slice i (.l 0) n _))) => match rowB m i with
    | some cs => some (needs [BytOk cs 0 n.den] (.ret (sB (.o (decide (n.den ≤ 4000) && !anyB cs 0 n.den))) m))
    | none => none
  | _ => none
/-! The head. -/
def endN (b : ByteArray) : Nat := 6 + (byteAt b 4).toNat + 256 * (byteAt b 5).toNat
def cB (b : ByteArray) : ByteArray := b.extract 6 (endN b)
def preH (b : ByteArray) : Bool := decide (6 ≤ b.size) && ((b.extract 0 4).toList == magB.toList) && (decide (endN b + 4 ≤ b.size) && ((smA .empty (b.extract 0 (endN b))).toList == (b.extract 0 (endN b + 4)).toList))
def hres (P : Int) (n sz : Nat) (B : SC) (y : Bool) : SV := .tup [.agg (.ls [.f (.int .i64 (.o P)), .f (.slice 0 (.l 0) (.o n) .any), B]), .c (.f (.int .i64 (.o sz))), .c (.f (.bool (.l y)))]
def hno (z : SI) : SV := .tup [.agg (.ls [.f (.int .i64 (.l 0)), nilC, nilC]), .c (.f (.int .i64 z)), .c (.f (.bool (.l false)))]
def hA (pre ok w : Bool) (P : Int) (n k sz : Nat) (rs bs : Array Value) (s : SV) (m : SMem) : Prop := match s with
  | .tup [.agg (.ls [.f (.int .i64 p), .f A, .f B]), .c (.f (.int .i64 z)), .c (.f (.bool y))] => match A with
    | .lit (.slice none 0 0) => y.den = false ∧ p.den = 0 ∧ ((pre = false ∧ z.den = 0) ∨ (pre = true ∧ ok = false ∧ z.den = sz)) ∧ (match B with | .lit (.slice none 0 0) => True | _ => False)
    | .slice sid _ _ _ => match B with
      | .lit (.slice none 0 0) => pre = true ∧ ok = true ∧ w = false ∧ retOk 0 [(0, sid)] (hres P n sz nilC true) (resM false rs bs) s m
      | .slice tid _ _ _ => pre = true ∧ ok = true ∧ w = true ∧ retOk 0 [(0, sid), (1, tid)] (hres P n sz (.f (.slice 1 (.l 0) (.o k) .any)) false) (resM true rs bs) s m
      | _ => False
    | _ => False
  | _ => False
def conH (g : FuncId) (l : List SV) (m : SMem) : Option Tree := match g, l with
  | 25, [x, y] => smT m x y
  | 37, [x] => decT12 m x
  | _, _ => none
def EH : Env := ⟨Try.prog, fnOf, conH, fun _ _ _ => false⟩
def hdC (b : ByteArray) : List SFr := [callFr 29 Try.f29.ntmps [strV' b] (Try.f29.body.getD .skip)]
def hdT (m : SMem) : SV → Option Tree
  | .s (.c (.f (.opq (.string b)))) => some (needs [b.size ≤ 100000] (.br (preH b)
      (.br (okD (cB b))
        (.br (decide ((leftB (cB b)).size ≠ 0)) (.ret ((hres (byteAt (cB b) 0) (numB (cB b)) (endN b + 4) (.f (.slice 1 (.l 0) (.o (leftB (cB b)).size) .any)) false).re (sh m.next)) (ins2 m (resM true (rowP (cB b) (numB (cB b))) (celA (leftB (cB b))))))
          (.ret ((hres (byteAt (cB b) 0) (numB (cB b)) (endN b + 4) nilC true).re (sh m.next)) (ins2 m (resM false (rowP (cB b) (numB (cB b))) (celA (leftB (cB b)))))))
        (.ret (hno (.o (endN b + 4 : Nat))) m))
      (.ret (hno (.l 0)) m)))
  | _ => none
def conR (g : FuncId) (l : List SV) (m : SMem) : Option Tree := match g, l with
  | 25, [x, y] => smT m x y
  | 29, [x] => hdT m x
  | 32, [x] => mpT m x
  | _, _ => none
def ER : Env := ⟨Try.prog, fnOf, conR, fun _ f x => Nat.beq f 38 && isLoop x⟩
def reC (j : ByteArray) : List SFr := [callFr 16 Try.f16.ntmps [strV' j] (Try.f16.body.getD .skip)]
end
end Go.Proofs.Ytapkbgccbmjfaaa
/- Of journal: whether picks may be, and the head, as propositions. No condition. -/
namespace Go.Proofs.Ytapkbgccbmjfaaa
set_option maxRecDepth 100000
theorem mp_run (n : Nat) (cs : Array Value) (ty : TypeId) (r : Bool) : (run EP 1000 1 (mpC n) (prM false cs ty)).vc (boolR r) (fun _ _ => False) =
    ((decide ((↑n : Int) > (4000 : Int)) = true → false = r) ∧ (decide ((↑n : Int) > (4000 : Int)) = false → (rowOk false cs (0 : Nat) n ∧ True) ∧ (!anyV false cs (0 : Nat) n) = r)) := by kernel_rfl
theorem hd_run (b : ByteArray) (pre ok w : Bool) (P : Int) (n k sz : Nat) (rs bs : Array Value) : (run EH 1000 0 (hdC b) M0).vc (hA pre ok w P n k sz rs bs) (fun _ _ => False) =
    (((decide (((((ByteArray.size b) : Nat) : Int)) < (6 : Int)) == false) = true → (((4 : Nat) ≤ (ByteArray.size b)) ∧ True) ∧ ((!ByteArray.toList (ByteArray.extract b (0 : Nat) (4 : Nat)) == ByteArray.toList (ByteArray.mk #[(66 : UInt8), (76 : UInt8), (87 : UInt8), (75 : UInt8)])) = true → false = false ∧ (0 : Int) = (0 : Int) ∧ (pre = false ∧ (0 : Int) = (0 : Int) ∨ pre = true ∧ ok = false ∧ (0 : Int) = (↑sz : Int)) ∧ True) ∧ ((!ByteArray.toList (ByteArray.extract b (0 : Nat) (4 : Nat)) == ByteArray.toList (ByteArray.mk #[(66 : UInt8), (76 : UInt8), (87 : UInt8), (75 : UInt8)])) = false → (((0 : Int) ≤ (4 : Int) ∧ (4 : Int) < (↑((ByteArray.size b)) : Int)) ∧ True) ∧ (((0 : Int) ≤ (5 : Int) ∧ (5 : Int) < (↑((ByteArray.size b)) : Int)) ∧ True) ∧ ((decide (((((ByteArray.size b) : Nat) : Int)) < ari BinOp.add IntKind.i64 (ari BinOp.add IntKind.i64 (ari BinOp.add IntKind.i64 (6 : Int) (IntKind.wrap IntKind.i64 (byteAt b (4 : Nat)))) (ari BinOp.shl IntKind.i64 (IntKind.wrap IntKind.i64 (byteAt b (5 : Nat))) (8 : Int))) (4 : Int)) == false) = true → ((0 : Int) ≤ ari BinOp.add IntKind.i64 (ari BinOp.add IntKind.i64 (6 : Int) (IntKind.wrap IntKind.i64 (byteAt b (4 : Nat)))) (ari BinOp.shl IntKind.i64 (IntKind.wrap IntKind.i64 (byteAt b (5 : Nat))) (8 : Int)) ∧ (Int.toNat (ari BinOp.add IntKind.i64 (ari BinOp.add IntKind.i64 (6 : Int) (IntKind.wrap IntKind.i64 (byteAt b (4 : Nat)))) (ari BinOp.shl IntKind.i64 (IntKind.wrap IntKind.i64 (byteAt b (5 : Nat))) (8 : Int))) ≤ (ByteArray.size b)) ∧ True) ∧ ((0 : Nat) + ByteArray.size (ByteArray.extract b (0 : Nat) (Int.toNat (ari BinOp.add IntKind.i64 (ari BinOp.add IntKind.i64 (6 : Int) (IntKind.wrap IntKind.i64 (byteAt b (4 : Nat)))) (ari BinOp.shl IntKind.i64 (IntKind.wrap IntKind.i64 (byteAt b (5 : Nat))) (8 : Int))))) ≤ (1000000 : Nat) ∧ True) ∧ ((0 : Int) ≤ ari BinOp.add IntKind.i64 (ari BinOp.add IntKind.i64 (ari BinOp.add IntKind.i64 (6 : Int) (IntKind.wrap IntKind.i64 (byteAt b (4 : Nat)))) (ari BinOp.shl IntKind.i64 (IntKind.wrap IntKind.i64 (byteAt b (5 : Nat))) (8 : Int))) (4 : Int) ∧ (Int.toNat (ari BinOp.add IntKind.i64 (ari BinOp.add IntKind.i64 (ari BinOp.add IntKind.i64 (6 : Int) (IntKind.wrap IntKind.i64 (byteAt b (4 : Nat)))) (ari BinOp.shl IntKind.i64 (IntKind.wrap IntKind.i64 (byteAt b (5 : Nat))) (8 : Int))) (4 : Int)) ≤ (ByteArray.size b)) ∧ True) ∧ ((!ByteArray.toList (smA (ByteArray.mk #[]) (ByteArray.extract b (0 : Nat) (Int.toNat (ari BinOp.add IntKind.i64 (ari BinOp.add IntKind.i64 (6 : Int) (IntKind.wrap IntKind.i64 (byteAt b (4 : Nat)))) (ari BinOp.shl IntKind.i64 (IntKind.wrap IntKind.i64 (byteAt b (5 : Nat))) (8 : Int)))))) == ByteArray.toList (ByteArray.extract b (0 : Nat) (Int.toNat (ari BinOp.add IntKind.i64 (ari BinOp.add IntKind.i64 (ari BinOp.add IntKind.i64 (6 : Int) (IntKind.wrap IntKind.i64 (byteAt b (4 : Nat)))) (ari BinOp.shl IntKind.i64 (IntKind.wrap IntKind.i64 (byteAt b (5 : Nat))) (8 : Int))) (4 : Int))))) = true → false = false ∧ (0 : Int) = (0 : Int) ∧ (pre = false ∧ (0 : Int) = (0 : Int) ∨ pre = true ∧ ok = false ∧ (0 : Int) = (↑sz : Int)) ∧ True) ∧ ((!ByteArray.toList (smA (ByteArray.mk #[]) (ByteArray.extract b (0 : Nat) (Int.toNat (ari BinOp.add IntKind.i64 (ari BinOp.add IntKind.i64 (6 : Int) (IntKind.wrap IntKind.i64 (byteAt b (4 : Nat)))) (ari BinOp.shl IntKind.i64 (IntKind.wrap IntKind.i64 (byteAt b (5 : Nat))) (8 : Int)))))) == ByteArray.toList (ByteArray.extract b (0 : Nat) (Int.toNat (ari BinOp.add IntKind.i64 (ari BinOp.add IntKind.i64 (ari BinOp.add IntKind.i64 (6 : Int) (IntKind.wrap IntKind.i64 (byteAt b (4 : Nat)))) (ari BinOp.shl IntKind.i64 (IntKind.wrap IntKind.i64 (byteAt b (5 : Nat))) (8 : Int))) (4 : Int))))) = false → ((0 : Int) ≤ ari BinOp.add IntKind.i64 (ari BinOp.add IntKind.i64 (6 : Int) (IntKind.wrap IntKind.i64 (byteAt b (4 : Nat)))) (ari BinOp.shl IntKind.i64 (IntKind.wrap IntKind.i64 (byteAt b (5 : Nat))) (8 : Int)) ∧ (Int.toNat (ari BinOp.add IntKind.i64 (ari BinOp.add IntKind.i64 (6 : Int) (IntKind.wrap IntKind.i64 (byteAt b (4 : Nat)))) (ari BinOp.shl IntKind.i64 (IntKind.wrap IntKind.i64 (byteAt b (5 : Nat))) (8 : Int))) ≤ (ByteArray.size b)) ∧ (6 : Nat) ≤ Int.toNat (ari BinOp.add IntKind.i64 (ari BinOp.add IntKind.i64 (6 : Int) (IntKind.wrap IntKind.i64 (byteAt b (4 : Nat)))) (ari BinOp.shl IntKind.i64 (IntKind.wrap IntKind.i64 (byteAt b (5 : Nat))) (8 : Int))) ∧ True) ∧ (ByteArray.size (ByteArray.extract b (6 : Nat) (Int.toNat (ari BinOp.add IntKind.i64 (ari BinOp.add IntKind.i64 (6 : Int) (IntKind.wrap IntKind.i64 (byteAt b (4 : Nat)))) (ari BinOp.shl IntKind.i64 (IntKind.wrap IntKind.i64 (byteAt b (5 : Nat))) (8 : Int))))) < (140737488355328 : Nat) ∧ True) ∧ (okD (ByteArray.extract b (6 : Nat) (Int.toNat (ari BinOp.add IntKind.i64 (ari BinOp.add IntKind.i64 (6 : Int) (IntKind.wrap IntKind.i64 (byteAt b (4 : Nat)))) (ari BinOp.shl IntKind.i64 (IntKind.wrap IntKind.i64 (byteAt b (5 : Nat))) (8 : Int))))) = true → (decide (ByteArray.size (leftB (ByteArray.extract b (6 : Nat) (Int.toNat (ari BinOp.add IntKind.i64 (ari BinOp.add IntKind.i64 (6 : Int) (IntKind.wrap IntKind.i64 (byteAt b (4 : Nat)))) (ari BinOp.shl IntKind.i64 (IntKind.wrap IntKind.i64 (byteAt b (5 : Nat))) (8 : Int)))))) ≠ (0 : Nat)) = true → pre = true ∧ ok = true ∧ w = true ∧ P = byteAt (ByteArray.extract b (6 : Nat) (Int.toNat (ari BinOp.add IntKind.i64 (ari BinOp.add IntKind.i64 (6 : Int) (IntKind.wrap IntKind.i64 (byteAt b (4 : Nat)))) (ari BinOp.shl IntKind.i64 (IntKind.wrap IntKind.i64 (byteAt b (5 : Nat))) (8 : Int))))) (0 : Nat) ∧ n = numB (ByteArray.extract b (6 : Nat) (Int.toNat (ari BinOp.add IntKind.i64 (ari BinOp.add IntKind.i64 (6 : Int) (IntKind.wrap IntKind.i64 (byteAt b (4 : Nat)))) (ari BinOp.shl IntKind.i64 (IntKind.wrap IntKind.i64 (byteAt b (5 : Nat))) (8 : Int))))) ∧ k = ByteArray.size (leftB (ByteArray.extract b (6 : Nat) (Int.toNat (ari BinOp.add IntKind.i64 (ari BinOp.add IntKind.i64 (6 : Int) (IntKind.wrap IntKind.i64 (byteAt b (4 : Nat)))) (ari BinOp.shl IntKind.i64 (IntKind.wrap IntKind.i64 (byteAt b (5 : Nat))) (8 : Int)))))) ∧ (↑sz : Int) = ari BinOp.add IntKind.i64 (ari BinOp.add IntKind.i64 (ari BinOp.add IntKind.i64 (6 : Int) (IntKind.wrap IntKind.i64 (byteAt b (4 : Nat)))) (ari BinOp.shl IntKind.i64 (IntKind.wrap IntKind.i64 (byteAt b (5 : Nat))) (8 : Int))) (4 : Int) ∧ false = ((↑(ByteArray.size (leftB (ByteArray.extract b (6 : Nat) (Int.toNat (ari BinOp.add IntKind.i64 (ari BinOp.add IntKind.i64 (6 : Int) (IntKind.wrap IntKind.i64 (byteAt b (4 : Nat)))) (ari BinOp.shl IntKind.i64 (IntKind.wrap IntKind.i64 (byteAt b (5 : Nat))) (8 : Int))))))) : Int) == (0 : Int)) ∧ (9 : TypeId) = (9 : TypeId) ∧ rs = rowP (ByteArray.extract b (6 : Nat) (Int.toNat (ari BinOp.add IntKind.i64 (ari BinOp.add IntKind.i64 (6 : Int) (IntKind.wrap IntKind.i64 (byteAt b (4 : Nat)))) (ari BinOp.shl IntKind.i64 (IntKind.wrap IntKind.i64 (byteAt b (5 : Nat))) (8 : Int))))) (numB (ByteArray.extract b (6 : Nat) (Int.toNat (ari BinOp.add IntKind.i64 (ari BinOp.add IntKind.i64 (6 : Int) (IntKind.wrap IntKind.i64 (byteAt b (4 : Nat)))) (ari BinOp.shl IntKind.i64 (IntKind.wrap IntKind.i64 (byteAt b (5 : Nat))) (8 : Int)))))) ∧ (5 : TypeId) = (5 : TypeId) ∧ bs = celA (leftB (ByteArray.extract b (6 : Nat) (Int.toNat (ari BinOp.add IntKind.i64 (ari BinOp.add IntKind.i64 (6 : Int) (IntKind.wrap IntKind.i64 (byteAt b (4 : Nat)))) (ari BinOp.shl IntKind.i64 (IntKind.wrap IntKind.i64 (byteAt b (5 : Nat))) (8 : Int)))))) ∧ True) ∧ (decide (ByteArray.size (leftB (ByteArray.extract b (6 : Nat) (Int.toNat (ari BinOp.add IntKind.i64 (ari BinOp.add IntKind.i64 (6 : Int) (IntKind.wrap IntKind.i64 (byteAt b (4 : Nat)))) (ari BinOp.shl IntKind.i64 (IntKind.wrap IntKind.i64 (byteAt b (5 : Nat))) (8 : Int)))))) ≠ (0 : Nat)) = false → pre = true ∧ ok = true ∧ w = false ∧ P = byteAt (ByteArray.extract b (6 : Nat) (Int.toNat (ari BinOp.add IntKind.i64 (ari BinOp.add IntKind.i64 (6 : Int) (IntKind.wrap IntKind.i64 (byteAt b (4 : Nat)))) (ari BinOp.shl IntKind.i64 (IntKind.wrap IntKind.i64 (byteAt b (5 : Nat))) (8 : Int))))) (0 : Nat) ∧ n = numB (ByteArray.extract b (6 : Nat) (Int.toNat (ari BinOp.add IntKind.i64 (ari BinOp.add IntKind.i64 (6 : Int) (IntKind.wrap IntKind.i64 (byteAt b (4 : Nat)))) (ari BinOp.shl IntKind.i64 (IntKind.wrap IntKind.i64 (byteAt b (5 : Nat))) (8 : Int))))) ∧ Value.slice none (0 : Nat) (0 : Nat) = Value.slice none (0 : Nat) (0 : Nat) ∧ (↑sz : Int) = ari BinOp.add IntKind.i64 (ari BinOp.add IntKind.i64 (ari BinOp.add IntKind.i64 (6 : Int) (IntKind.wrap IntKind.i64 (byteAt b (4 : Nat)))) (ari BinOp.shl IntKind.i64 (IntKind.wrap IntKind.i64 (byteAt b (5 : Nat))) (8 : Int))) (4 : Int) ∧ (9 : TypeId) = (9 : TypeId) ∧ rs = rowP (ByteArray.extract b (6 : Nat) (Int.toNat (ari BinOp.add IntKind.i64 (ari BinOp.add IntKind.i64 (6 : Int) (IntKind.wrap IntKind.i64 (byteAt b (4 : Nat)))) (ari BinOp.shl IntKind.i64 (IntKind.wrap IntKind.i64 (byteAt b (5 : Nat))) (8 : Int))))) (numB (ByteArray.extract b (6 : Nat) (Int.toNat (ari BinOp.add IntKind.i64 (ari BinOp.add IntKind.i64 (6 : Int) (IntKind.wrap IntKind.i64 (byteAt b (4 : Nat)))) (ari BinOp.shl IntKind.i64 (IntKind.wrap IntKind.i64 (byteAt b (5 : Nat))) (8 : Int)))))) ∧ True)) ∧ (okD (ByteArray.extract b (6 : Nat) (Int.toNat (ari BinOp.add IntKind.i64 (ari BinOp.add IntKind.i64 (6 : Int) (IntKind.wrap IntKind.i64 (byteAt b (4 : Nat)))) (ari BinOp.shl IntKind.i64 (IntKind.wrap IntKind.i64 (byteAt b (5 : Nat))) (8 : Int))))) = false → false = false ∧ (0 : Int) = (0 : Int) ∧ (pre = false ∧ ari BinOp.add IntKind.i64 (ari BinOp.add IntKind.i64 (ari BinOp.add IntKind.i64 (6 : Int) (IntKind.wrap IntKind.i64 (byteAt b (4 : Nat)))) (ari BinOp.shl IntKind.i64 (IntKind.wrap IntKind.i64 (byteAt b (5 : Nat))) (8 : Int))) (4 : Int) = (0 : Int) ∨ pre = true ∧ ok = false ∧ ari BinOp.add IntKind.i64 (ari BinOp.add IntKind.i64 (ari BinOp.add IntKind.i64 (6 : Int) (IntKind.wrap IntKind.i64 (byteAt b (4 : Nat)))) (ari BinOp.shl IntKind.i64 (IntKind.wrap IntKind.i64 (byteAt b (5 : Nat))) (8 : Int))) (4 : Int) = (↑sz : Int)) ∧ True))) ∧ ((decide (((((ByteArray.size b) : Nat) : Int)) < ari BinOp.add IntKind.i64 (ari BinOp.add IntKind.i64 (ari BinOp.add IntKind.i64 (6 : Int) (IntKind.wrap IntKind.i64 (byteAt b (4 : Nat)))) (ari BinOp.shl IntKind.i64 (IntKind.wrap IntKind.i64 (byteAt b (5 : Nat))) (8 : Int))) (4 : Int)) == false) = false → false = false ∧ (0 : Int) = (0 : Int) ∧ (pre = false ∧ (0 : Int) = (0 : Int) ∨ pre = true ∧ ok = false ∧ (0 : Int) = (↑sz : Int)) ∧ True))) ∧ ((decide (((((ByteArray.size b) : Nat) : Int)) < (6 : Int)) == false) = false → false = false ∧ (0 : Int) = (0 : Int) ∧ (pre = false ∧ (0 : Int) = (0 : Int) ∨ pre = true ∧ ok = false ∧ (0 : Int) = (↑sz : Int)) ∧ True)) := by kernel_rfl
end Go.Proofs.Ytapkbgccbmjfaaa
/- Of journal: whether picks may be, and the head, as contracts. No condition. -/
namespace Go.Proofs.Ytapkbgccbmjfaaa
set_option linter.unusedSectionVars false
set_option linter.unusedVariables false
set_option maxRecDepth 100000
theorem conP_ok (g : FuncId) (l : List SV) (m : SMem) (t : Tree) (h : conP g l m = some t) : Con E0 g l m t := by
  unfold conP at h
  split at h
  · exact cfT_ok (b := false) h
  · cases h
theorem EP_ok : EnvOk EP := EnvOk.with E0_ok _ _ conP_ok
theorem fn32p : E0.fn 32 = some Try.f32 := by kernel_rfl
theorem body32p : Try.f32.body = some (Try.f32.body.getD .skip) := by kernel_rfl
theorem mp_good (n : Nat) (cs : Array Value) (ty : TypeId) (hB : BytOk cs 0 n) : Good Try.prog (boolR (decide (n ≤ 4000) && !anyB cs 0 n)) 1 (mpC n) (prM false cs ty) := by
  refine run_vc EP_ok 1000 (mp_run n cs ty _) ?_ (fun _ _ h => h) (fun _ _ h => h.elim)
  refine ⟨fun h => ?_, fun h => ⟨⟨hB, trivial⟩, ?_⟩⟩
  · have h := of_decide_eq_true h
    rw [decide_eq_false (p := n ≤ 4000) (by omega)]; rfl
  · have h := of_decide_eq_false h
    rw [decide_eq_true (p := n ≤ 4000) (by omega)]; rfl
theorem rowB_of {m : SMem} {i : Nat} {cs : Array Value} (h : rowB m i = some cs) : ∃ a ty wr, getB m.bl i = some ⟨a, ty, wr⟩ ∧ ∀ R cs', a.okM R cs' → (SA.pop cs).okM R cs' := by
  unfold rowB at h
  split at h
  · rename_i e
    cases h
    refine ⟨_, _, _, e, fun R cs' h => ?_⟩
    have h : cs' = cs ∧ ∀ v ∈ cs'.toList, v.oneCell' = true := h
    obtain ⟨e1, h2⟩ := h
    subst e1
    exact ⟨by rw [← Array.length_toList, List.take_length], h2⟩
  · rename_i e; cases h; exact ⟨_, _, _, e, fun R cs' h => h⟩
  · cases h
theorem mpT_ok {m : SMem} {x : SV} {t : Tree} (h : mpT m x = some t) : Con E0 32 [x] m t := by
  unfold mpT at h
  split at h
  · rename_i i n c
    split at h
    · rename_i cs hr
      cases h
      obtain ⟨a, ty, wr, hb, hcs⟩ := rowB_of hr
      refine Con.ro E0_ok (l' := [.s (.c (.f (.slice 0 (.l 0) (.o n.den) .any)))]) (ms := prM false cs ty) (A := boolR (decide (n.den ≤ 4000) && !anyB cs 0 n.den)) fn32p body32p rfl (fun _ => i) ?_ ?_ (fun hq => mp_good n.den cs ty (hq _ (by simp))) (fun _ _ _ _ _ => boolR_con)
      · intro j b hj
        obtain ⟨rfl, rfl⟩ := prM_get hj
        exact ⟨Nat.zero_lt_one, rfl, _, hb, rfl, fun R cs' h => hcs R cs' h⟩
      · intro R vs ha
        match vs, ha with
        | [u], ha => exact ⟨sl_pull ha.1 Nat.zero_lt_one rfl rfl, trivial⟩
    · cases h
  · cases h
/-! The head. -/
theorem conH_ok (g : FuncId) (l : List SV) (m : SMem) (t : Tree) (h : conH g l m = some t) : Con E0 g l m t := by
  unfold conH at h
  split at h
  · exact smT_ok h
  · exact decT12_ok h
  · cases h
theorem EH_ok : EnvOk EH := EnvOk.with E0_ok _ _ conH_ok
theorem fn29h : E0.fn 29 = some Try.f29 := by kernel_rfl
theorem body29h : Try.f29.body = some (Try.f29.body.getD .skip) := by kernel_rfl
theorem end_eq (b : ByteArray) : ari .add .i64 (ari .add .i64 6 (IntKind.wrap .i64 (byteAt b 4))) (ari .shl .i64 (IntKind.wrap .i64 (byteAt b 5)) 8) = (endN b : Int) ∧ ari .add .i64 (endN b : Int) 4 = ((endN b + 4 : Nat) : Int) := by
  have r4 := byteAt_range b 4
  have r5 := byteAt_range b 5
  have e : ari .shl .i64 (IntKind.wrap .i64 (byteAt b 5)) 8 = 256 * byteAt b 5 := by
    rw [Go.IntWalk.i64_in (byteAt b 5) (by omega)]
    show IntKind.wrap .i64 (byteAt b 5 * 2 ^ 8) = _
    rw [Go.IntWalk.i64_in _ (by omega)]
    omega
  rw [e, Go.IntWalk.i64_in (byteAt b 4) (by omega)]
  unfold endN
  refine ⟨?_, ?_⟩
  · rw [ari_add, ari_add, Go.IntWalk.i64_in (6 + byteAt b 4) (by omega), Go.IntWalk.i64_in _ (by omega)]
    omega
  · rw [ari_add, Go.IntWalk.i64_in _ (by omega)]
    omega
theorem end_le (b : ByteArray) : 6 ≤ endN b ∧ endN b ≤ 65541 := by
  have r4 := byteAt_range b 4
  have r5 := byteAt_range b 5
  unfold endN
  omega
theorem beq_not {a b : List UInt8} (h : (!(a == b)) = true) : (a == b) = false := by simpa using h
theorem beq_yes {a b : List UInt8} (h : (!(a == b)) = false) : (a == b) = true := by simpa using h
theorem hd_good (b : ByteArray) (hb : b.size ≤ 100000) : Good Try.prog (hA (preH b) (okD (cB b)) (decide ((leftB (cB b)).size ≠ 0)) (byteAt (cB b) 0) (numB (cB b)) (leftB (cB b)).size (endN b + 4) (rowP (cB b) (numB (cB b))) (celA (leftB (cB b)))) 0 (hdC b) M0 := by
  refine run_vc EH_ok 1000 (hd_run b _ _ _ _ _ _ _ _ _) ?_ (fun _ _ h => h) (fun _ _ h => h.elim)
  obtain ⟨e1, e2⟩ := end_eq b
  have el := end_le b
  rw [e1, e2, Int.toNat_natCast, Int.toNat_natCast]
  rw [show ByteArray.mk #[(66 : UInt8), (76 : UInt8), (87 : UInt8), (75 : UInt8)] = magB from rfl, show ByteArray.mk #[] = ByteArray.empty from rfl]
  rw [show b.extract 6 (endN b) = cB b from rfl]
  have hcs : (cB b).size < 140737488355328 := by unfold cB; rw [ext_size]; omega
  have hes : (b.extract 0 (endN b)).size ≤ 100000 := by rw [ext_size]; omega
  have no1 : b.size < 6 → preH b = false := fun h => by unfold preH; rw [decide_eq_false (by omega)]; rfl
  have no2 : ((b.extract 0 4).toList == magB.toList) = false → preH b = false := fun h => by unfold preH; rw [h, Bool.and_false, Bool.false_and]
  have no3 : b.size < endN b + 4 → preH b = false := fun h => by unfold preH; rw [decide_eq_false (p := endN b + 4 ≤ b.size) (by omega), Bool.false_and, Bool.and_false]
  have no4 : ((smA .empty (b.extract 0 (endN b))).toList == (b.extract 0 (endN b + 4)).toList) = false → preH b = false := fun h => by unfold preH; rw [h, Bool.and_false, Bool.and_false]
  have yes : ¬ b.size < 6 → ((b.extract 0 4).toList == magB.toList) = true → ¬ b.size < endN b + 4 → ((smA .empty (b.extract 0 (endN b))).toList == (b.extract 0 (endN b + 4)).toList) = true → preH b = true := fun h1 h2 h3 h4 => by
    unfold preH
    rw [h2, h4, decide_eq_true (p := 6 ≤ b.size) (by omega), decide_eq_true (p := endN b + 4 ≤ b.size) (by omega)]
    rfl
  refine ⟨fun h1 => ?_, fun h1 => ⟨rfl, rfl, .inl ⟨no1 (by have : decide ((b.size : Int) < 6) = true := (by simpa using h1); have := of_decide_eq_true this; omega), rfl⟩, trivial⟩⟩
  have n6 : ¬ b.size < 6 := by have : decide ((b.size : Int) < 6) = false := (by simpa using h1); have := of_decide_eq_false this; omega
  refine ⟨⟨by omega, trivial⟩, fun h2 => ⟨rfl, rfl, .inl ⟨no2 (beq_not h2), rfl⟩, trivial⟩, fun h2 => ⟨⟨⟨by omega, by omega⟩, trivial⟩, ⟨⟨by omega, by omega⟩, trivial⟩, fun h3 => ?_, fun h3 => ⟨rfl, rfl, .inl ⟨no3 (by have : decide ((b.size : Int) < ((endN b + 4 : Nat) : Int)) = true := (by simpa using h3); have := of_decide_eq_true this; omega), rfl⟩, trivial⟩⟩⟩
  have n7 : ¬ b.size < endN b + 4 := by have : decide ((b.size : Int) < ((endN b + 4 : Nat) : Int)) = false := (by simpa using h3); have := of_decide_eq_false this; omega
  refine ⟨⟨by omega, by omega, trivial⟩, ⟨by omega, trivial⟩, ⟨by omega, by omega, trivial⟩, fun h4 => ⟨rfl, rfl, .inl ⟨no4 (beq_not h4), rfl⟩, trivial⟩, fun h4 => ⟨⟨by omega, by omega, by omega, trivial⟩, ⟨hcs, trivial⟩, fun h5 => ⟨fun h6 => ?_, fun h6 => ?_⟩, fun h5 => ⟨rfl, rfl, .inr ⟨yes n6 (beq_yes h2) n7 (beq_yes h4), h5, rfl⟩, trivial⟩⟩⟩
  · have hp := yes n6 (beq_yes h2) n7 (beq_yes h4)
    have h7 : ¬ (leftB (cB b)).size = 0 := by simpa using h6
    have h8 : false = (((leftB (cB b)).size : Int) == 0) := by
      have : ¬ ((leftB (cB b)).size : Int) = 0 := by omega
      exact (beq_eq_false_iff_ne.2 this).symm
    refine ⟨hp, h5, h6, rfl, rfl, rfl, rfl, h8, ?_⟩
    repeat' first | exact trivial | apply And.intro | exact rfl
  · have hp := yes n6 (beq_yes h2) n7 (beq_yes h4)
    refine ⟨hp, h5, h6, rfl, rfl, rfl, ?_⟩
    repeat' first | exact trivial | apply And.intro | exact rfl
theorem hA_yes0 {P : Int} {n k sz : Nat} {rs bs : Array Value} {s : SV} {m' : SMem} (h : hA true true false P n k sz rs bs s m') : ∃ π, retOk 0 π (hres P n sz nilC true) (resM false rs bs) s m' := by
  unfold hA at h
  split at h
  · split at h
    · obtain ⟨_, _, h, _⟩ := h
      rcases h with h | h
      · exact absurd h.1 (by decide)
      · exact absurd h.2.1 (by decide)
    · split at h
      · exact ⟨_, h.2.2.2⟩
      · exact absurd h.2.2.1 (by decide)
      · exact h.elim
    · exact h.elim
  · exact h.elim
theorem hA_yes1 {P : Int} {n k sz : Nat} {rs bs : Array Value} {s : SV} {m' : SMem} (h : hA true true true P n k sz rs bs s m') : ∃ π, retOk 0 π (hres P n sz (.f (.slice 1 (.l 0) (.o k) .any)) false) (resM true rs bs) s m' := by
  unfold hA at h
  split at h
  · split at h
    · obtain ⟨_, _, h, _⟩ := h
      rcases h with h | h
      · exact absurd h.1 (by decide)
      · exact absurd h.2.1 (by decide)
    · split at h
      · exact absurd h.2.2.1 (by decide)
      · exact ⟨_, h.2.2.2⟩
      · exact h.elim
    · exact h.elim
  · exact h.elim
theorem hA_no {pre ok w : Bool} (hno' : (pre && ok) = false) {P : Int} {n k sz : Nat} {rs bs : Array Value} {s : SV} {m' : SMem} {R R' : Ren} {v : Value} (h : hA pre ok w P n k sz rs bs s m') (hv : s.ok R' v) : (hno (.o (if pre then sz else 0 : Nat))).ok R v := by
  unfold hA at h
  split at h
  · rename_i p A B z y
    split at h
    · obtain ⟨h1, h2, h3, h4⟩ := h
      split at h4
      · obtain ⟨vs, rfl, hl⟩ := hv
        match hvs : vs.toList, hl with
        | [a, c, d], hl =>
          refine ⟨vs, rfl, ?_⟩
          rw [hvs]
          obtain ⟨⟨cs, ea, hc⟩, hd, he, _⟩ := hl
          have hd : c = .int .i64 z.den := hd
          have he : d = .bool y.den := he
          rw [h1] at he
          have hz : z.den = ((if pre then sz else 0 : Nat) : Int) := by
            rcases h3 with ⟨hp, hz⟩ | ⟨hp, _, hz⟩
            · rw [hp, hz]; rfl
            · rw [hp, hz]; rfl
          rw [hz] at hd
          refine ⟨⟨cs, ea, ?_⟩, hd, he, trivial⟩
          have hc : All2 (SC.ok R') [.f (.int .i64 p), .f (.lit (.slice none 0 0)), .f (.lit (.slice none 0 0))] cs.toList := hc
          show All2 (SC.ok R) [.f (.int .i64 (.l 0)), nilC, nilC] cs.toList
          match hcs : cs.toList, hc with
          | [x, y', z'], hc =>
            have hx : x = .int .i64 p.den := hc.1
            rw [h2] at hx
            exact ⟨hx, hc.2.1, hc.2.2.1, trivial⟩
      · exact h4.elim
    · split at h
      · rw [h.1, h.2.1] at hno'; exact absurd hno' (by decide)
      · rw [h.1, h.2.1] at hno'; exact absurd hno' (by decide)
      · exact h.elim
    · exact h.elim
  · exact h.elim
theorem hdT_ok {m : SMem} {x : SV} {t : Tree} (h : hdT m x = some t) : Con E0 29 [x] m t := by
  unfold hdT at h
  split at h
  · rename_i b
    cases h
    have no : ∀ (z : SI), (preH b && okD (cB b)) = false → z.den = ((if preH b then endN b + 4 else 0 : Nat) : Int) → Con E0 29 [strV' b] m (needs [b.size ≤ 100000] (.ret (hno z) m)) := fun z hn hz => by
      refine Con.ro E0_ok (l := [strV' b]) (l' := [strV' b]) (ms := M0) (m := m) (q := _) (A := hA (preH b) (okD (cB b)) (decide ((leftB (cB b)).size ≠ 0)) (byteAt (cB b) 0) (numB (cB b)) (leftB (cB b)).size (endN b + 4) (rowP (cB b) (numB (cB b))) (celA (leftB (cB b)))) fn29h body29h rfl (fun i => i) no_blocks (fun R vs ha => strV_ok ha) (fun hq => hd_good b (hq _ (by simp))) (fun s m' R R' v h hv => ?_)
      have hk := hA_no (R := R) hn h hv
      obtain ⟨vs, e, hl⟩ := hk
      refine ⟨vs, e, ?_⟩
      match hvs : vs.toList, hl with
      | [a, c, d], hl =>
        refine ⟨hl.1, ?_, hl.2.2⟩
        have hc : c = .int .i64 ((if preH b then endN b + 4 else 0 : Nat) : Int) := hl.2.1
        rw [← hz] at hc
        exact hc
    refine Con.br (fun hp => Con.br (fun hd => Con.br (fun hw => ?_) fun hw => ?_) fun hd => ?_) fun hp => ?_
    · refine Con.freshG fn29h body29h (noIds_str b) fun hq => Good.retX ((hd_good b (hq _ (by simp))).mono fun s m' h => ?_)
      rw [hp, hd, hw] at h
      exact hA_yes1 h
    · refine Con.freshG fn29h body29h (noIds_str b) fun hq => Good.retX ((hd_good b (hq _ (by simp))).mono fun s m' h => ?_)
      rw [hp, hd, hw] at h
      exact hA_yes0 h
    · exact no _ (by rw [hd, Bool.and_false]) (by rw [hp]; rfl)
    · exact no _ (by rw [hp, Bool.false_and]) (by rw [hp]; rfl)
  · cases h
end Go.Proofs.Ytapkbgccbmjfaaa
/- Of journal: Read's states. No condition. -/
namespace Go.Proofs.Ytapkbgccbmjfaaa
noncomputable section
def jrR (b : ByteArray) : Tree := (gR ER 0 (reC b) M0).pick [true, true, false]
def jrF (b : ByteArray) : List SFr := (jrR b).fsE.map SFr.bare
def told (b : ByteArray) (B : SC) (z : Int) : SA := .ls [.f (.int .i64 (.o (byteAt (cB b) 0))), .f (.slice 1 (.l 0) (.o (numB (cB b))) .any), B, .f (.int .i64 (.o z)), .f (.bool (.l false))]
def intA (a : Int) : SA := .ls [.f (.int .i64 (.o a))]
def jrM0 (b : ByteArray) (a z : Int) : SMem := putAll [(3, told b nilC z), (6, intA a)] (jrR b).memE.bare
def jrM1 (b : ByteArray) (a z : Int) (k : Nat) (vs : Array Value) : SMem :=
  ⟨10, (putAll [(3, told b (.f (.slice 9 (.l 0) (.o k) (.full 1))) z), (6, intA a)] (jrR b).memE.bare).bl.set 9 (some ⟨.pop vs, 5, true⟩), (jrR b).memE.bare.xs⟩
def rdTo (m : SMem) (id : Nat) : Option (SF × Int) := match getB m.bl id with
  | some ⟨.ls [.f _, .f _, .f A, .f (.int .i64 z), .f _], _, _⟩ => some (A, z.den)
  | _ => none
def rdOne (m : SMem) (id : Nat) : Option Int := match getB m.bl id with
  | some ⟨.ls [.f (.int .i64 a)], _, _⟩ => some a.den
  | _ => none
def jrN (b : ByteArray) (Q0 : Int → Int → Prop) (Q1 : Int → Int → Nat → Array Value → Prop) (fs : List SFr) (m : SMem) : Prop := match rdOne m 6, rdTo m 3 with
  | some a, some (.lit (.slice none 0 0), z) => Q0 a z ∧ subOk 0 (idFrom 0 9) (headF (jrF b)) (jrM0 b a z) fs m
  | some a, some (.slice sid _ k _, z) => match rdA m sid with
    | some vs => Q1 a z k.den vs ∧ subOk 0 [(0, 0), (1, 1), (2, 2), (3, 3), (4, 4), (5, 5), (6, 6), (7, 7), (8, 8), (9, sid)] (headF (jrF b)) (jrM1 b a z k.den vs) fs m
    | none => False
  | _, _ => False
def jrN0 (b : ByteArray) (Q0 : Int → Int → Prop) (fs : List SFr) (m : SMem) : Prop := match rdOne m 6, rdTo m 3 with
  | some a, some (_, z) => Q0 a z ∧ subOk 0 (idFrom 0 9) (jrF b) (jrM0 b a z) fs m
  | _, _ => False
def jrS0 (b : ByteArray) (a z : Int) : Tree := stepT ER.go (run ER 1000) 0 (headF (jrF b)) (jrM0 b a z)
def jrS1 (b : ByteArray) (a z : Int) (k : Nat) (vs : Array Value) : Tree := stepT ER.go (run ER 1000) 0 (headF (jrF b)) (jrM1 b a z k vs)
def reV (P : Int) (n : Nat) (B : SC) (z : Int) (tn : Bool) : SV := .tup [.agg (.ls [.f (.int .i64 (.o P)), .f (.slice 0 (.l 0) (.o n) .any), B, .f (.int .i64 (.o z)), .f (.bool (.o tn))]), .c (.f (.int .i64 (.l 0)))]
def reno : SV := .tup [.agg (.ls [.f (.int .i64 (.l 0)), nilC, nilC, .f (.int .i64 (.l 0)), .f (.bool (.l false))]), .c (.f (.int .i64 (.l 3)))]
/-- What Read answers. -/
def reA (ok w : Bool) (P : Int) (n k : Nat) (z : Int) (tn : Bool) (rs vs : Array Value) (s : SV) (m : SMem) : Prop := match s with
  | .tup [.agg (.ls [.f (.int .i64 p), .f A, .f B, .f (.int .i64 y), .f (.bool t)]), .c (.f (.int .i64 e))] => match A with
    | .lit (.slice none 0 0) => ok = false ∧ p.den = 0 ∧ e.den = 3 ∧ y.den = 0 ∧ t.den = false ∧ (match B with | .lit (.slice none 0 0) => True | _ => False)
    | .slice sid _ _ _ => match B with
      | .lit (.slice none 0 0) => ok = true ∧ w = false ∧ retOk 0 [(0, sid)] (reV P n nilC z tn) (resM false rs vs) s m
      | .slice tid _ _ _ => ok = true ∧ w = true ∧ retOk 0 [(0, sid), (1, tid)] (reV P n (.f (.slice 1 (.l 0) (.o k) .any)) z tn) (resM true rs vs) s m
      | _ => False
    | _ => False
  | _ => False
def jrT0 : List SIt := headTd (jrF .empty)
def jrH0 : List SIt := headTd (headF (jrF .empty))
def jrT1 : List SIt := headTd ((jrF .empty).drop 1)
def getLp : List XB → LoopP
  | ⟨_, .loop st pe fn _ ps ag bd _⟩ :: _ => ⟨st, pe, fn, ps, ag, bd⟩
  | _ :: l => getLp l
  | [] => ⟨.ready, none, 0, #[], .skip, .skip⟩
def jrLp : LoopP := getLp (jrM0 .empty 0 0).xs
end
end Go.Proofs.Ytapkbgccbmjfaaa
/- Of journal: Read's rounds, as propositions. No condition. -/
namespace Go.Proofs.Ytapkbgccbmjfaaa
set_option maxRecDepth 100000
theorem k_start (b : ByteArray) (ok w : Bool) (P : Int) (n k : Nat) (z : Int) (tn : Bool) (rs vs : Array Value) (Q0 : Int → Int → Prop) : (gR ER 0 (reC b) M0).vc (reA ok w P n k z tn rs vs) (jrN0 b Q0) =
    ((ByteArray.size b ≤ (100000 : Nat) ∧ True) ∧ (preH b = true → (okD (cB b) = true → (decide (ByteArray.size (leftB (cB b)) ≠ (0 : Nat)) = true → ok = false ∧ (0 : Int) = (0 : Int) ∧ (3 : Int) = (3 : Int) ∧ (0 : Int) = (0 : Int) ∧ false = false ∧ True) ∧ (decide (ByteArray.size (leftB (cB b)) ≠ (0 : Nat)) = false → Q0 (↑(endN b + 4) : Int) (↑(endN b + 4) : Int) ∧ CallKind.normal = CallKind.normal ∧ TodoOk (ren 0 [(0, 0), (1, 1), (2, 2), (3, 3), (4, 4), (5, 5), (6, 6), (7, 7), (8, 8)]) jrT0 jrT0 ∧ CallKind.normal = CallKind.normal ∧ TodoOk (ren 0 [(0, 0), (1, 1), (2, 2), (3, 3), (4, 4), (5, 5), (6, 6), (7, 7), (8, 8)]) jrT1 jrT1 ∧ Value.string b = Value.string b ∧ Value.string b = Value.string b ∧ Value.string b = Value.string b ∧ byteAt (cB b) (0 : Nat) = byteAt (cB b) (0 : Nat) ∧ numB (cB b) = numB (cB b) ∧ Value.slice none (0 : Nat) (0 : Nat) = Value.slice none (0 : Nat) (0 : Nat) ∧ (↑(endN b + 4) : Int) = (↑(endN b + 4) : Int) ∧ Fn.func (38 : Nat) = Fn.func (38 : Nat) ∧ byteAt (cB b) (0 : Nat) = byteAt (cB b) (0 : Nat) ∧ numB (cB b) = numB (cB b) ∧ Value.slice none (0 : Nat) (0 : Nat) = Value.slice none (0 : Nat) (0 : Nat) ∧ byteAt (cB b) (0 : Nat) = byteAt (cB b) (0 : Nat) ∧ numB (cB b) = numB (cB b) ∧ Value.slice none (0 : Nat) (0 : Nat) = Value.slice none (0 : Nat) (0 : Nat) ∧ (↑(endN b + 4) : Int) = (↑(endN b + 4) : Int) ∧ (↑(endN b + 4) : Int) = (↑(endN b + 4) : Int) ∧ byteAt (cB b) (0 : Nat) = byteAt (cB b) (0 : Nat) ∧ numB (cB b) = numB (cB b) ∧ Value.slice none (0 : Nat) (0 : Nat) = Value.slice none (0 : Nat) (0 : Nat) ∧ (↑(endN b + 4) : Int) = (↑(endN b + 4) : Int) ∧ (↑(endN b + 4) : Int) = (↑(endN b + 4) : Int) ∧ byteAt (cB b) (0 : Nat) = byteAt (cB b) (0 : Nat) ∧ numB (cB b) = numB (cB b) ∧ Value.slice none (0 : Nat) (0 : Nat) = Value.slice none (0 : Nat) (0 : Nat) ∧ (↑(endN b + 4) : Int) = (↑(endN b + 4) : Int) ∧ (↑(endN b + 4) : Int) = (↑(endN b + 4) : Int) ∧ Fn.func (30 : Nat) = Fn.func (30 : Nat) ∧ (39 : Nat) = (39 : Nat) ∧ Value.slice none (0 : Nat) (0 : Nat) = Value.slice none (0 : Nat) (0 : Nat) ∧ Value.slice none (0 : Nat) (0 : Nat) = Value.slice none (0 : Nat) (0 : Nat) ∧ (9 : TypeId) = (9 : TypeId) ∧ rowP (cB b) (numB (cB b)) = rowP (cB b) (numB (cB b)) ∧ (39 : Nat) = (39 : Nat) ∧ byteAt (cB b) (0 : Nat) = byteAt (cB b) (0 : Nat) ∧ numB (cB b) = numB (cB b) ∧ Value.slice none (0 : Nat) (0 : Nat) = Value.slice none (0 : Nat) (0 : Nat) ∧ (↑(endN b + 4) : Int) = (↑(endN b + 4) : Int) ∧ (9 : Nat) = (9 : Nat) ∧ Value.string b = Value.string b ∧ (32 : Nat) = (32 : Nat) ∧ byteAt (cB b) (0 : Nat) = byteAt (cB b) (0 : Nat) ∧ numB (cB b) = numB (cB b) ∧ Value.slice none (0 : Nat) (0 : Nat) = Value.slice none (0 : Nat) (0 : Nat) ∧ (43 : Nat) = (43 : Nat) ∧ Fn.func (30 : Nat) = Fn.func (30 : Nat) ∧ (3 : Nat) = (3 : Nat) ∧ (↑(endN b + 4) : Int) = (↑(endN b + 4) : Int) ∧ EqL jrLp jrLp ∧ Value.string b = Value.string b ∧ Value.string b = Value.string b ∧ Value.string b = Value.string b ∧ byteAt (cB b) (0 : Nat) = byteAt (cB b) (0 : Nat) ∧ numB (cB b) = numB (cB b) ∧ Value.slice none (0 : Nat) (0 : Nat) = Value.slice none (0 : Nat) (0 : Nat) ∧ (↑(endN b + 4) : Int) = (↑(endN b + 4) : Int) ∧ Fn.func (38 : Nat) = Fn.func (38 : Nat) ∧ byteAt (cB b) (0 : Nat) = byteAt (cB b) (0 : Nat) ∧ numB (cB b) = numB (cB b) ∧ Value.slice none (0 : Nat) (0 : Nat) = Value.slice none (0 : Nat) (0 : Nat) ∧ byteAt (cB b) (0 : Nat) = byteAt (cB b) (0 : Nat) ∧ numB (cB b) = numB (cB b) ∧ Value.slice none (0 : Nat) (0 : Nat) = Value.slice none (0 : Nat) (0 : Nat) ∧ (↑(endN b + 4) : Int) = (↑(endN b + 4) : Int) ∧ (↑(endN b + 4) : Int) = (↑(endN b + 4) : Int) ∧ byteAt (cB b) (0 : Nat) = byteAt (cB b) (0 : Nat) ∧ numB (cB b) = numB (cB b) ∧ Value.slice none (0 : Nat) (0 : Nat) = Value.slice none (0 : Nat) (0 : Nat) ∧ (↑(endN b + 4) : Int) = (↑(endN b + 4) : Int) ∧ (↑(endN b + 4) : Int) = (↑(endN b + 4) : Int) ∧ byteAt (cB b) (0 : Nat) = byteAt (cB b) (0 : Nat) ∧ numB (cB b) = numB (cB b) ∧ Value.slice none (0 : Nat) (0 : Nat) = Value.slice none (0 : Nat) (0 : Nat) ∧ (↑(endN b + 4) : Int) = (↑(endN b + 4) : Int) ∧ (↑(endN b + 4) : Int) = (↑(endN b + 4) : Int) ∧ Fn.func (30 : Nat) = Fn.func (30 : Nat) ∧ True)) ∧ (okD (cB b) = false → ok = false ∧ (0 : Int) = (0 : Int) ∧ (3 : Int) = (3 : Int) ∧ (0 : Int) = (0 : Int) ∧ false = false ∧ True)) ∧ (preH b = false → ok = false ∧ (0 : Int) = (0 : Int) ∧ (3 : Int) = (3 : Int) ∧ (0 : Int) = (0 : Int) ∧ false = false ∧ True)) := by kernel_rfl
theorem k_first (b : ByteArray) (a z : Int) (ok w : Bool) (P : Int) (n k : Nat) (zF : Int) (tn : Bool) (rs vs : Array Value) (Q0 : Int → Int → Prop) (Q1 : Int → Int → Nat → Array Value → Prop) : (jrS0 b a z).vc (reA ok w P n k zF tn rs vs) (jrN b Q0 Q1) =
    ((decide (a < (((ByteArray.size b) : Nat) : Int)) = true → (((0 : Int) ≤ a ∧ a < (↑((ByteArray.size b)) : Int)) ∧ True) ∧ ((decide (IntKind.wrap IntKind.i64 (byteAt b (Int.toNat a)) < (1 : Int)) == false) = true → ((decide (IntKind.wrap IntKind.i64 (byteAt b (Int.toNat a)) > (200 : Int)) == false) = true → (decide (ari BinOp.add IntKind.i64 (ari BinOp.add IntKind.i64 (ari BinOp.add IntKind.i64 a (1 : Int)) (IntKind.wrap IntKind.i64 (byteAt b (Int.toNat a)))) (4 : Int) > (((ByteArray.size b) : Nat) : Int)) = true → ok = true ∧ w = false ∧ P = byteAt (cB b) (0 : Nat) ∧ n = numB (cB b) ∧ Value.slice none (0 : Nat) (0 : Nat) = Value.slice none (0 : Nat) (0 : Nat) ∧ zF = z ∧ tn = decide (z < (((ByteArray.size b) : Nat) : Int)) ∧ (9 : TypeId) = (9 : TypeId) ∧ rs = rowP (cB b) (numB (cB b)) ∧ True) ∧ (decide (ari BinOp.add IntKind.i64 (ari BinOp.add IntKind.i64 (ari BinOp.add IntKind.i64 a (1 : Int)) (IntKind.wrap IntKind.i64 (byteAt b (Int.toNat a)))) (4 : Int) > (((ByteArray.size b) : Nat) : Int)) = false → ((0 : Int) ≤ a ∧ (Int.toNat a ≤ (ByteArray.size b)) ∧ (0 : Int) ≤ ari BinOp.sub IntKind.i64 a (4 : Int) ∧ Int.toNat (ari BinOp.sub IntKind.i64 a (4 : Int)) ≤ Int.toNat a ∧ True) ∧ ((0 : Int) ≤ ari BinOp.add IntKind.i64 (ari BinOp.add IntKind.i64 a (1 : Int)) (IntKind.wrap IntKind.i64 (byteAt b (Int.toNat a))) ∧ (Int.toNat (ari BinOp.add IntKind.i64 (ari BinOp.add IntKind.i64 a (1 : Int)) (IntKind.wrap IntKind.i64 (byteAt b (Int.toNat a)))) ≤ (ByteArray.size b)) ∧ (0 : Int) ≤ a ∧ Int.toNat a ≤ Int.toNat (ari BinOp.add IntKind.i64 (ari BinOp.add IntKind.i64 a (1 : Int)) (IntKind.wrap IntKind.i64 (byteAt b (Int.toNat a)))) ∧ True) ∧ (ByteArray.size (ByteArray.extract b (Int.toNat (ari BinOp.sub IntKind.i64 a (4 : Int))) (Int.toNat a)) + ByteArray.size (ByteArray.extract b (Int.toNat a) (Int.toNat (ari BinOp.add IntKind.i64 (ari BinOp.add IntKind.i64 a (1 : Int)) (IntKind.wrap IntKind.i64 (byteAt b (Int.toNat a)))))) ≤ (1000000 : Nat) ∧ True) ∧ ((0 : Int) ≤ ari BinOp.add IntKind.i64 (ari BinOp.add IntKind.i64 a (1 : Int)) (IntKind.wrap IntKind.i64 (byteAt b (Int.toNat a))) ∧ (Int.toNat (ari BinOp.add IntKind.i64 (ari BinOp.add IntKind.i64 a (1 : Int)) (IntKind.wrap IntKind.i64 (byteAt b (Int.toNat a)))) ≤ (ByteArray.size b)) ∧ (0 : Int) ≤ ari BinOp.add IntKind.i64 a (1 : Int) ∧ Int.toNat (ari BinOp.add IntKind.i64 a (1 : Int)) ≤ Int.toNat (ari BinOp.add IntKind.i64 (ari BinOp.add IntKind.i64 a (1 : Int)) (IntKind.wrap IntKind.i64 (byteAt b (Int.toNat a)))) ∧ True) ∧ ((0 : Int) ≤ ari BinOp.add IntKind.i64 (ari BinOp.add IntKind.i64 (ari BinOp.add IntKind.i64 a (1 : Int)) (IntKind.wrap IntKind.i64 (byteAt b (Int.toNat a)))) (4 : Int) ∧ (Int.toNat (ari BinOp.add IntKind.i64 (ari BinOp.add IntKind.i64 (ari BinOp.add IntKind.i64 a (1 : Int)) (IntKind.wrap IntKind.i64 (byteAt b (Int.toNat a)))) (4 : Int)) ≤ (ByteArray.size b)) ∧ (0 : Int) ≤ a ∧ Int.toNat a ≤ Int.toNat (ari BinOp.add IntKind.i64 (ari BinOp.add IntKind.i64 (ari BinOp.add IntKind.i64 a (1 : Int)) (IntKind.wrap IntKind.i64 (byteAt b (Int.toNat a)))) (4 : Int)) ∧ True) ∧ (((match mkSB (false && false) !ByteArray.toList (smA (ByteArray.extract b (Int.toNat (ari BinOp.sub IntKind.i64 a (4 : Int))) (Int.toNat a)) (ByteArray.extract b (Int.toNat a) (Int.toNat (ari BinOp.add IntKind.i64 (ari BinOp.add IntKind.i64 a (1 : Int)) (IntKind.wrap IntKind.i64 (byteAt b (Int.toNat a))))))) == ByteArray.toList (ByteArray.extract b (Int.toNat a) (Int.toNat (ari BinOp.add IntKind.i64 (ari BinOp.add IntKind.i64 (ari BinOp.add IntKind.i64 a (1 : Int)) (IntKind.wrap IntKind.i64 (byteAt b (Int.toNat a)))) (4 : Int)))) with | SB.l b => b | SB.o b => b) == false) = true → (BytOk (Array.map (fun b => Value.int IntKind.u8 (↑(UInt8.toNat b) : Int)) (ByteArray.data (ByteArray.extract b (Int.toNat (ari BinOp.add IntKind.i64 a (1 : Int))) (Int.toNat (ari BinOp.add IntKind.i64 (ari BinOp.add IntKind.i64 a (1 : Int)) (IntKind.wrap IntKind.i64 (byteAt b (Int.toNat a)))))))) (0 : Nat) (ByteArray.size (ByteArray.extract b (Int.toNat (ari BinOp.add IntKind.i64 a (1 : Int))) (Int.toNat (ari BinOp.add IntKind.i64 (ari BinOp.add IntKind.i64 a (1 : Int)) (IntKind.wrap IntKind.i64 (byteAt b (Int.toNat a))))))) ∧ True) ∧ (((!(decide (ByteArray.size (ByteArray.extract b (Int.toNat (ari BinOp.add IntKind.i64 a (1 : Int))) (Int.toNat (ari BinOp.add IntKind.i64 (ari BinOp.add IntKind.i64 a (1 : Int)) (IntKind.wrap IntKind.i64 (byteAt b (Int.toNat a)))))) ≤ (4000 : Nat)) && !anyB (Array.map (fun b => Value.int IntKind.u8 (↑(UInt8.toNat b) : Int)) (ByteArray.data (ByteArray.extract b (Int.toNat (ari BinOp.add IntKind.i64 a (1 : Int))) (Int.toNat (ari BinOp.add IntKind.i64 (ari BinOp.add IntKind.i64 a (1 : Int)) (IntKind.wrap IntKind.i64 (byteAt b (Int.toNat a)))))))) (0 : Nat) (ByteArray.size (ByteArray.extract b (Int.toNat (ari BinOp.add IntKind.i64 a (1 : Int))) (Int.toNat (ari BinOp.add IntKind.i64 (ari BinOp.add IntKind.i64 a (1 : Int)) (IntKind.wrap IntKind.i64 (byteAt b (Int.toNat a))))))))) == false) = true → (decide (ari BinOp.add IntKind.i64 (0 : Int) ((((ByteArray.size (ByteArray.extract b (Int.toNat (ari BinOp.add IntKind.i64 a (1 : Int))) (Int.toNat (ari BinOp.add IntKind.i64 (ari BinOp.add IntKind.i64 a (1 : Int)) (IntKind.wrap IntKind.i64 (byteAt b (Int.toNat a))))))) : Nat) : Int)) > (4000 : Int)) = true → ok = true ∧ w = false ∧ P = byteAt (cB b) (0 : Nat) ∧ n = numB (cB b) ∧ Value.slice none (0 : Nat) (0 : Nat) = Value.slice none (0 : Nat) (0 : Nat) ∧ zF = z ∧ tn = decide (z < (((ByteArray.size b) : Nat) : Int)) ∧ (9 : TypeId) = (9 : TypeId) ∧ rs = rowP (cB b) (numB (cB b)) ∧ True) ∧ (decide (ari BinOp.add IntKind.i64 (0 : Int) ((((ByteArray.size (ByteArray.extract b (Int.toNat (ari BinOp.add IntKind.i64 a (1 : Int))) (Int.toNat (ari BinOp.add IntKind.i64 (ari BinOp.add IntKind.i64 a (1 : Int)) (IntKind.wrap IntKind.i64 (byteAt b (Int.toNat a))))))) : Nat) : Int)) > (4000 : Int)) = false → (decide (ByteArray.size (ByteArray.extract b (Int.toNat (ari BinOp.add IntKind.i64 a (1 : Int))) (Int.toNat (ari BinOp.add IntKind.i64 (ari BinOp.add IntKind.i64 a (1 : Int)) (IntKind.wrap IntKind.i64 (byteAt b (Int.toNat a)))))) = (0 : Nat)) = true → Q0 (ari BinOp.add IntKind.i64 (ari BinOp.add IntKind.i64 (ari BinOp.add IntKind.i64 a (1 : Int)) (IntKind.wrap IntKind.i64 (byteAt b (Int.toNat a)))) (4 : Int)) (ari BinOp.add IntKind.i64 z (ari BinOp.add IntKind.i64 (ari BinOp.add IntKind.i64 (1 : Int) ((((ByteArray.size (ByteArray.extract b (Int.toNat (ari BinOp.add IntKind.i64 a (1 : Int))) (Int.toNat (ari BinOp.add IntKind.i64 (ari BinOp.add IntKind.i64 a (1 : Int)) (IntKind.wrap IntKind.i64 (byteAt b (Int.toNat a))))))) : Nat) : Int))) (4 : Int))) ∧ CallKind.normal = CallKind.normal ∧ TodoOk (ren 0 [(0, 0), (1, 1), (2, 2), (3, 3), (4, 4), (5, 5), (6, 6), (7, 7), (8, 8)]) jrH0 jrH0 ∧ CallKind.normal = CallKind.normal ∧ TodoOk (ren 0 [(0, 0), (1, 1), (2, 2), (3, 3), (4, 4), (5, 5), (6, 6), (7, 7), (8, 8)]) jrT1 jrT1 ∧ Value.string b = Value.string b ∧ Value.string b = Value.string b ∧ Value.string b = Value.string b ∧ byteAt (cB b) (0 : Nat) = byteAt (cB b) (0 : Nat) ∧ numB (cB b) = numB (cB b) ∧ Value.slice none (0 : Nat) (0 : Nat) = Value.slice none (0 : Nat) (0 : Nat) ∧ (↑(endN b + 4) : Int) = (↑(endN b + 4) : Int) ∧ Fn.func (38 : Nat) = Fn.func (38 : Nat) ∧ byteAt (cB b) (0 : Nat) = byteAt (cB b) (0 : Nat) ∧ numB (cB b) = numB (cB b) ∧ Value.slice none (0 : Nat) (0 : Nat) = Value.slice none (0 : Nat) (0 : Nat) ∧ byteAt (cB b) (0 : Nat) = byteAt (cB b) (0 : Nat) ∧ numB (cB b) = numB (cB b) ∧ Value.slice none (0 : Nat) (0 : Nat) = Value.slice none (0 : Nat) (0 : Nat) ∧ (↑(endN b + 4) : Int) = (↑(endN b + 4) : Int) ∧ (↑(endN b + 4) : Int) = (↑(endN b + 4) : Int) ∧ byteAt (cB b) (0 : Nat) = byteAt (cB b) (0 : Nat) ∧ numB (cB b) = numB (cB b) ∧ Value.slice none (0 : Nat) (0 : Nat) = Value.slice none (0 : Nat) (0 : Nat) ∧ (↑(endN b + 4) : Int) = (↑(endN b + 4) : Int) ∧ (↑(endN b + 4) : Int) = (↑(endN b + 4) : Int) ∧ byteAt (cB b) (0 : Nat) = byteAt (cB b) (0 : Nat) ∧ numB (cB b) = numB (cB b) ∧ Value.slice none (0 : Nat) (0 : Nat) = Value.slice none (0 : Nat) (0 : Nat) ∧ (↑(endN b + 4) : Int) = (↑(endN b + 4) : Int) ∧ (↑(endN b + 4) : Int) = (↑(endN b + 4) : Int) ∧ Fn.func (30 : Nat) = Fn.func (30 : Nat) ∧ (39 : Nat) = (39 : Nat) ∧ Value.slice none (0 : Nat) (0 : Nat) = Value.slice none (0 : Nat) (0 : Nat) ∧ Value.slice none (0 : Nat) (0 : Nat) = Value.slice none (0 : Nat) (0 : Nat) ∧ (9 : TypeId) = (9 : TypeId) ∧ rowP (cB b) (numB (cB b)) = rowP (cB b) (numB (cB b)) ∧ (39 : Nat) = (39 : Nat) ∧ byteAt (cB b) (0 : Nat) = byteAt (cB b) (0 : Nat) ∧ numB (cB b) = numB (cB b) ∧ Value.slice none (0 : Nat) (0 : Nat) = Value.slice none (0 : Nat) (0 : Nat) ∧ ari BinOp.add IntKind.i64 z (ari BinOp.add IntKind.i64 (ari BinOp.add IntKind.i64 (1 : Int) ((((ByteArray.size (ByteArray.extract b (Int.toNat (ari BinOp.add IntKind.i64 a (1 : Int))) (Int.toNat (ari BinOp.add IntKind.i64 (ari BinOp.add IntKind.i64 a (1 : Int)) (IntKind.wrap IntKind.i64 (byteAt b (Int.toNat a))))))) : Nat) : Int))) (4 : Int)) = ari BinOp.add IntKind.i64 z (ari BinOp.add IntKind.i64 (ari BinOp.add IntKind.i64 (1 : Int) ((((ByteArray.size (ByteArray.extract b (Int.toNat (ari BinOp.add IntKind.i64 a (1 : Int))) (Int.toNat (ari BinOp.add IntKind.i64 (ari BinOp.add IntKind.i64 a (1 : Int)) (IntKind.wrap IntKind.i64 (byteAt b (Int.toNat a))))))) : Nat) : Int))) (4 : Int)) ∧ (9 : Nat) = (9 : Nat) ∧ Value.string b = Value.string b ∧ (32 : Nat) = (32 : Nat) ∧ byteAt (cB b) (0 : Nat) = byteAt (cB b) (0 : Nat) ∧ numB (cB b) = numB (cB b) ∧ Value.slice none (0 : Nat) (0 : Nat) = Value.slice none (0 : Nat) (0 : Nat) ∧ (43 : Nat) = (43 : Nat) ∧ Fn.func (30 : Nat) = Fn.func (30 : Nat) ∧ (3 : Nat) = (3 : Nat) ∧ ari BinOp.add IntKind.i64 (ari BinOp.add IntKind.i64 (ari BinOp.add IntKind.i64 a (1 : Int)) (IntKind.wrap IntKind.i64 (byteAt b (Int.toNat a)))) (4 : Int) = ari BinOp.add IntKind.i64 (ari BinOp.add IntKind.i64 (ari BinOp.add IntKind.i64 a (1 : Int)) (IntKind.wrap IntKind.i64 (byteAt b (Int.toNat a)))) (4 : Int) ∧ EqL jrLp jrLp ∧ Value.string b = Value.string b ∧ Value.string b = Value.string b ∧ Value.string b = Value.string b ∧ byteAt (cB b) (0 : Nat) = byteAt (cB b) (0 : Nat) ∧ numB (cB b) = numB (cB b) ∧ Value.slice none (0 : Nat) (0 : Nat) = Value.slice none (0 : Nat) (0 : Nat) ∧ (↑(endN b + 4) : Int) = (↑(endN b + 4) : Int) ∧ Fn.func (38 : Nat) = Fn.func (38 : Nat) ∧ byteAt (cB b) (0 : Nat) = byteAt (cB b) (0 : Nat) ∧ numB (cB b) = numB (cB b) ∧ Value.slice none (0 : Nat) (0 : Nat) = Value.slice none (0 : Nat) (0 : Nat) ∧ byteAt (cB b) (0 : Nat) = byteAt (cB b) (0 : Nat) ∧ numB (cB b) = numB (cB b) ∧ Value.slice none (0 : Nat) (0 : Nat) = Value.slice none (0 : Nat) (0 : Nat) ∧ (↑(endN b + 4) : Int) = (↑(endN b + 4) : Int) ∧ (↑(endN b + 4) : Int) = (↑(endN b + 4) : Int) ∧ byteAt (cB b) (0 : Nat) = byteAt (cB b) (0 : Nat) ∧ numB (cB b) = numB (cB b) ∧ Value.slice none (0 : Nat) (0 : Nat) = Value.slice none (0 : Nat) (0 : Nat) ∧ (↑(endN b + 4) : Int) = (↑(endN b + 4) : Int) ∧ (↑(endN b + 4) : Int) = (↑(endN b + 4) : Int) ∧ byteAt (cB b) (0 : Nat) = byteAt (cB b) (0 : Nat) ∧ numB (cB b) = numB (cB b) ∧ Value.slice none (0 : Nat) (0 : Nat) = Value.slice none (0 : Nat) (0 : Nat) ∧ (↑(endN b + 4) : Int) = (↑(endN b + 4) : Int) ∧ (↑(endN b + 4) : Int) = (↑(endN b + 4) : Int) ∧ Fn.func (30 : Nat) = Fn.func (30 : Nat) ∧ True) ∧ (decide (ByteArray.size (ByteArray.extract b (Int.toNat (ari BinOp.add IntKind.i64 a (1 : Int))) (Int.toNat (ari BinOp.add IntKind.i64 (ari BinOp.add IntKind.i64 a (1 : Int)) (IntKind.wrap IntKind.i64 (byteAt b (Int.toNat a)))))) = (0 : Nat)) = false → ((0 : Nat) < ByteArray.size (ByteArray.extract b (Int.toNat (ari BinOp.add IntKind.i64 a (1 : Int))) (Int.toNat (ari BinOp.add IntKind.i64 (ari BinOp.add IntKind.i64 a (1 : Int)) (IntKind.wrap IntKind.i64 (byteAt b (Int.toNat a)))))) ∧ (((0 : Nat) + ByteArray.size (ByteArray.extract b (Int.toNat (ari BinOp.add IntKind.i64 a (1 : Int))) (Int.toNat (ari BinOp.add IntKind.i64 (ari BinOp.add IntKind.i64 a (1 : Int)) (IntKind.wrap IntKind.i64 (byteAt b (Int.toNat a))))))) * 1 ≤ (140737488355328 : Nat) ∧ (0 : Nat) + ByteArray.size (ByteArray.extract b (Int.toNat (ari BinOp.add IntKind.i64 a (1 : Int))) (Int.toNat (ari BinOp.add IntKind.i64 (ari BinOp.add IntKind.i64 a (1 : Int)) (IntKind.wrap IntKind.i64 (byteAt b (Int.toNat a)))))) ≤ (140737488355328 : Nat)) ∧ True) ∧ Q1 (ari BinOp.add IntKind.i64 (ari BinOp.add IntKind.i64 (ari BinOp.add IntKind.i64 a (1 : Int)) (IntKind.wrap IntKind.i64 (byteAt b (Int.toNat a)))) (4 : Int)) (ari BinOp.add IntKind.i64 z (ari BinOp.add IntKind.i64 (ari BinOp.add IntKind.i64 (1 : Int) ((((ByteArray.size (ByteArray.extract b (Int.toNat (ari BinOp.add IntKind.i64 a (1 : Int))) (Int.toNat (ari BinOp.add IntKind.i64 (ari BinOp.add IntKind.i64 a (1 : Int)) (IntKind.wrap IntKind.i64 (byteAt b (Int.toNat a))))))) : Nat) : Int))) (4 : Int))) (ByteArray.size (ByteArray.extract b (Int.toNat (ari BinOp.add IntKind.i64 a (1 : Int))) (Int.toNat (ari BinOp.add IntKind.i64 (ari BinOp.add IntKind.i64 a (1 : Int)) (IntKind.wrap IntKind.i64 (byteAt b (Int.toNat a))))))) (Array.map (fun b => Value.int IntKind.u8 (↑(UInt8.toNat b) : Int)) (ByteArray.data (ByteArray.extract b (Int.toNat (ari BinOp.add IntKind.i64 a (1 : Int))) (Int.toNat (ari BinOp.add IntKind.i64 (ari BinOp.add IntKind.i64 a (1 : Int)) (IntKind.wrap IntKind.i64 (byteAt b (Int.toNat a)))))))) ∧ CallKind.normal = CallKind.normal ∧ TodoOk (ren 0 [(0, 0), (1, 1), (2, 2), (3, 3), (4, 4), (5, 5), (6, 6), (7, 7), (8, 8), (9, 10)]) jrH0 jrH0 ∧ CallKind.normal = CallKind.normal ∧ TodoOk (ren 0 [(0, 0), (1, 1), (2, 2), (3, 3), (4, 4), (5, 5), (6, 6), (7, 7), (8, 8), (9, 10)]) jrT1 jrT1 ∧ Value.string b = Value.string b ∧ Value.string b = Value.string b ∧ Value.string b = Value.string b ∧ byteAt (cB b) (0 : Nat) = byteAt (cB b) (0 : Nat) ∧ numB (cB b) = numB (cB b) ∧ Value.slice none (0 : Nat) (0 : Nat) = Value.slice none (0 : Nat) (0 : Nat) ∧ (↑(endN b + 4) : Int) = (↑(endN b + 4) : Int) ∧ Fn.func (38 : Nat) = Fn.func (38 : Nat) ∧ byteAt (cB b) (0 : Nat) = byteAt (cB b) (0 : Nat) ∧ numB (cB b) = numB (cB b) ∧ Value.slice none (0 : Nat) (0 : Nat) = Value.slice none (0 : Nat) (0 : Nat) ∧ byteAt (cB b) (0 : Nat) = byteAt (cB b) (0 : Nat) ∧ numB (cB b) = numB (cB b) ∧ Value.slice none (0 : Nat) (0 : Nat) = Value.slice none (0 : Nat) (0 : Nat) ∧ (↑(endN b + 4) : Int) = (↑(endN b + 4) : Int) ∧ (↑(endN b + 4) : Int) = (↑(endN b + 4) : Int) ∧ byteAt (cB b) (0 : Nat) = byteAt (cB b) (0 : Nat) ∧ numB (cB b) = numB (cB b) ∧ Value.slice none (0 : Nat) (0 : Nat) = Value.slice none (0 : Nat) (0 : Nat) ∧ (↑(endN b + 4) : Int) = (↑(endN b + 4) : Int) ∧ (↑(endN b + 4) : Int) = (↑(endN b + 4) : Int) ∧ byteAt (cB b) (0 : Nat) = byteAt (cB b) (0 : Nat) ∧ numB (cB b) = numB (cB b) ∧ Value.slice none (0 : Nat) (0 : Nat) = Value.slice none (0 : Nat) (0 : Nat) ∧ (↑(endN b + 4) : Int) = (↑(endN b + 4) : Int) ∧ (↑(endN b + 4) : Int) = (↑(endN b + 4) : Int) ∧ Fn.func (30 : Nat) = Fn.func (30 : Nat) ∧ (39 : Nat) = (39 : Nat) ∧ Value.slice none (0 : Nat) (0 : Nat) = Value.slice none (0 : Nat) (0 : Nat) ∧ Value.slice none (0 : Nat) (0 : Nat) = Value.slice none (0 : Nat) (0 : Nat) ∧ (9 : TypeId) = (9 : TypeId) ∧ rowP (cB b) (numB (cB b)) = rowP (cB b) (numB (cB b)) ∧ (39 : Nat) = (39 : Nat) ∧ byteAt (cB b) (0 : Nat) = byteAt (cB b) (0 : Nat) ∧ numB (cB b) = numB (cB b) ∧ ByteArray.size (ByteArray.extract b (Int.toNat (ari BinOp.add IntKind.i64 a (1 : Int))) (Int.toNat (ari BinOp.add IntKind.i64 (ari BinOp.add IntKind.i64 a (1 : Int)) (IntKind.wrap IntKind.i64 (byteAt b (Int.toNat a)))))) = ByteArray.size (ByteArray.extract b (Int.toNat (ari BinOp.add IntKind.i64 a (1 : Int))) (Int.toNat (ari BinOp.add IntKind.i64 (ari BinOp.add IntKind.i64 a (1 : Int)) (IntKind.wrap IntKind.i64 (byteAt b (Int.toNat a)))))) ∧ ari BinOp.add IntKind.i64 z (ari BinOp.add IntKind.i64 (ari BinOp.add IntKind.i64 (1 : Int) ((((ByteArray.size (ByteArray.extract b (Int.toNat (ari BinOp.add IntKind.i64 a (1 : Int))) (Int.toNat (ari BinOp.add IntKind.i64 (ari BinOp.add IntKind.i64 a (1 : Int)) (IntKind.wrap IntKind.i64 (byteAt b (Int.toNat a))))))) : Nat) : Int))) (4 : Int)) = ari BinOp.add IntKind.i64 z (ari BinOp.add IntKind.i64 (ari BinOp.add IntKind.i64 (1 : Int) ((((ByteArray.size (ByteArray.extract b (Int.toNat (ari BinOp.add IntKind.i64 a (1 : Int))) (Int.toNat (ari BinOp.add IntKind.i64 (ari BinOp.add IntKind.i64 a (1 : Int)) (IntKind.wrap IntKind.i64 (byteAt b (Int.toNat a))))))) : Nat) : Int))) (4 : Int)) ∧ (9 : Nat) = (9 : Nat) ∧ Value.string b = Value.string b ∧ (5 : TypeId) = (5 : Nat) ∧ Array.map (fun b => Value.int IntKind.u8 (↑(UInt8.toNat b) : Int)) (ByteArray.data (ByteArray.extract b (Int.toNat (ari BinOp.add IntKind.i64 a (1 : Int))) (Int.toNat (ari BinOp.add IntKind.i64 (ari BinOp.add IntKind.i64 a (1 : Int)) (IntKind.wrap IntKind.i64 (byteAt b (Int.toNat a))))))) = Array.map (fun b => Value.int IntKind.u8 (↑(UInt8.toNat b) : Int)) (ByteArray.data (ByteArray.extract b (Int.toNat (ari BinOp.add IntKind.i64 a (1 : Int))) (Int.toNat (ari BinOp.add IntKind.i64 (ari BinOp.add IntKind.i64 a (1 : Int)) (IntKind.wrap IntKind.i64 (byteAt b (Int.toNat a))))))) ∧ (32 : Nat) = (32 : Nat) ∧ byteAt (cB b) (0 : Nat) = byteAt (cB b) (0 : Nat) ∧ numB (cB b) = numB (cB b) ∧ Value.slice none (0 : Nat) (0 : Nat) = Value.slice none (0 : Nat) (0 : Nat) ∧ (43 : Nat) = (43 : Nat) ∧ Fn.func (30 : Nat) = Fn.func (30 : Nat) ∧ (3 : Nat) = (3 : Nat) ∧ ari BinOp.add IntKind.i64 (ari BinOp.add IntKind.i64 (ari BinOp.add IntKind.i64 a (1 : Int)) (IntKind.wrap IntKind.i64 (byteAt b (Int.toNat a)))) (4 : Int) = ari BinOp.add IntKind.i64 (ari BinOp.add IntKind.i64 (ari BinOp.add IntKind.i64 a (1 : Int)) (IntKind.wrap IntKind.i64 (byteAt b (Int.toNat a)))) (4 : Int) ∧ EqL jrLp jrLp ∧ Value.string b = Value.string b ∧ Value.string b = Value.string b ∧ Value.string b = Value.string b ∧ byteAt (cB b) (0 : Nat) = byteAt (cB b) (0 : Nat) ∧ numB (cB b) = numB (cB b) ∧ Value.slice none (0 : Nat) (0 : Nat) = Value.slice none (0 : Nat) (0 : Nat) ∧ (↑(endN b + 4) : Int) = (↑(endN b + 4) : Int) ∧ Fn.func (38 : Nat) = Fn.func (38 : Nat) ∧ byteAt (cB b) (0 : Nat) = byteAt (cB b) (0 : Nat) ∧ numB (cB b) = numB (cB b) ∧ Value.slice none (0 : Nat) (0 : Nat) = Value.slice none (0 : Nat) (0 : Nat) ∧ byteAt (cB b) (0 : Nat) = byteAt (cB b) (0 : Nat) ∧ numB (cB b) = numB (cB b) ∧ Value.slice none (0 : Nat) (0 : Nat) = Value.slice none (0 : Nat) (0 : Nat) ∧ (↑(endN b + 4) : Int) = (↑(endN b + 4) : Int) ∧ (↑(endN b + 4) : Int) = (↑(endN b + 4) : Int) ∧ byteAt (cB b) (0 : Nat) = byteAt (cB b) (0 : Nat) ∧ numB (cB b) = numB (cB b) ∧ Value.slice none (0 : Nat) (0 : Nat) = Value.slice none (0 : Nat) (0 : Nat) ∧ (↑(endN b + 4) : Int) = (↑(endN b + 4) : Int) ∧ (↑(endN b + 4) : Int) = (↑(endN b + 4) : Int) ∧ byteAt (cB b) (0 : Nat) = byteAt (cB b) (0 : Nat) ∧ numB (cB b) = numB (cB b) ∧ Value.slice none (0 : Nat) (0 : Nat) = Value.slice none (0 : Nat) (0 : Nat) ∧ (↑(endN b + 4) : Int) = (↑(endN b + 4) : Int) ∧ (↑(endN b + 4) : Int) = (↑(endN b + 4) : Int) ∧ Fn.func (30 : Nat) = Fn.func (30 : Nat) ∧ True))) ∧ (((!(decide (ByteArray.size (ByteArray.extract b (Int.toNat (ari BinOp.add IntKind.i64 a (1 : Int))) (Int.toNat (ari BinOp.add IntKind.i64 (ari BinOp.add IntKind.i64 a (1 : Int)) (IntKind.wrap IntKind.i64 (byteAt b (Int.toNat a)))))) ≤ (4000 : Nat)) && !anyB (Array.map (fun b => Value.int IntKind.u8 (↑(UInt8.toNat b) : Int)) (ByteArray.data (ByteArray.extract b (Int.toNat (ari BinOp.add IntKind.i64 a (1 : Int))) (Int.toNat (ari BinOp.add IntKind.i64 (ari BinOp.add IntKind.i64 a (1 : Int)) (IntKind.wrap IntKind.i64 (byteAt b (Int.toNat a)))))))) (0 : Nat) (ByteArray.size (ByteArray.extract b (Int.toNat (ari BinOp.add IntKind.i64 a (1 : Int))) (Int.toNat (ari BinOp.add IntKind.i64 (ari BinOp.add IntKind.i64 a (1 : Int)) (IntKind.wrap IntKind.i64 (byteAt b (Int.toNat a))))))))) == false) = false → ok = true ∧ w = false ∧ P = byteAt (cB b) (0 : Nat) ∧ n = numB (cB b) ∧ Value.slice none (0 : Nat) (0 : Nat) = Value.slice none (0 : Nat) (0 : Nat) ∧ zF = z ∧ tn = decide (z < (((ByteArray.size b) : Nat) : Int)) ∧ (9 : TypeId) = (9 : TypeId) ∧ rs = rowP (cB b) (numB (cB b)) ∧ True)) ∧ (((match mkSB (false && false) !ByteArray.toList (smA (ByteArray.extract b (Int.toNat (ari BinOp.sub IntKind.i64 a (4 : Int))) (Int.toNat a)) (ByteArray.extract b (Int.toNat a) (Int.toNat (ari BinOp.add IntKind.i64 (ari BinOp.add IntKind.i64 a (1 : Int)) (IntKind.wrap IntKind.i64 (byteAt b (Int.toNat a))))))) == ByteArray.toList (ByteArray.extract b (Int.toNat a) (Int.toNat (ari BinOp.add IntKind.i64 (ari BinOp.add IntKind.i64 (ari BinOp.add IntKind.i64 a (1 : Int)) (IntKind.wrap IntKind.i64 (byteAt b (Int.toNat a)))) (4 : Int)))) with | SB.l b => b | SB.o b => b) == false) = false → ok = true ∧ w = false ∧ P = byteAt (cB b) (0 : Nat) ∧ n = numB (cB b) ∧ Value.slice none (0 : Nat) (0 : Nat) = Value.slice none (0 : Nat) (0 : Nat) ∧ zF = z ∧ tn = decide (z < (((ByteArray.size b) : Nat) : Int)) ∧ (9 : TypeId) = (9 : TypeId) ∧ rs = rowP (cB b) (numB (cB b)) ∧ True))) ∧ ((decide (IntKind.wrap IntKind.i64 (byteAt b (Int.toNat a)) > (200 : Int)) == false) = false → ok = true ∧ w = false ∧ P = byteAt (cB b) (0 : Nat) ∧ n = numB (cB b) ∧ Value.slice none (0 : Nat) (0 : Nat) = Value.slice none (0 : Nat) (0 : Nat) ∧ zF = z ∧ tn = decide (z < (((ByteArray.size b) : Nat) : Int)) ∧ (9 : TypeId) = (9 : TypeId) ∧ rs = rowP (cB b) (numB (cB b)) ∧ True)) ∧ ((decide (IntKind.wrap IntKind.i64 (byteAt b (Int.toNat a)) < (1 : Int)) == false) = false → ok = true ∧ w = false ∧ P = byteAt (cB b) (0 : Nat) ∧ n = numB (cB b) ∧ Value.slice none (0 : Nat) (0 : Nat) = Value.slice none (0 : Nat) (0 : Nat) ∧ zF = z ∧ tn = decide (z < (((ByteArray.size b) : Nat) : Int)) ∧ (9 : TypeId) = (9 : TypeId) ∧ rs = rowP (cB b) (numB (cB b)) ∧ True)) ∧ (decide (a < (((ByteArray.size b) : Nat) : Int)) = false → ok = true ∧ w = false ∧ P = byteAt (cB b) (0 : Nat) ∧ n = numB (cB b) ∧ Value.slice none (0 : Nat) (0 : Nat) = Value.slice none (0 : Nat) (0 : Nat) ∧ zF = z ∧ tn = decide (z < (((ByteArray.size b) : Nat) : Int)) ∧ (9 : TypeId) = (9 : TypeId) ∧ rs = rowP (cB b) (numB (cB b)) ∧ True)) := by kernel_rfl
theorem k_step (b : ByteArray) (a z : Int) (k : Nat) (vs : Array Value) (ok w : Bool) (P : Int) (n kF : Nat) (zF : Int) (tn : Bool) (rs vsF : Array Value) (Q0 : Int → Int → Prop) (Q1 : Int → Int → Nat → Array Value → Prop) : (jrS1 b a z k vs).vc (reA ok w P n kF zF tn rs vsF) (jrN b Q0 Q1) =
    ((decide (a < (((ByteArray.size b) : Nat) : Int)) = true → (((0 : Int) ≤ a ∧ a < (↑((ByteArray.size b)) : Int)) ∧ True) ∧ ((decide (IntKind.wrap IntKind.i64 (byteAt b (Int.toNat a)) < (1 : Int)) == false) = true → ((decide (IntKind.wrap IntKind.i64 (byteAt b (Int.toNat a)) > (200 : Int)) == false) = true → (decide (ari BinOp.add IntKind.i64 (ari BinOp.add IntKind.i64 (ari BinOp.add IntKind.i64 a (1 : Int)) (IntKind.wrap IntKind.i64 (byteAt b (Int.toNat a)))) (4 : Int) > (((ByteArray.size b) : Nat) : Int)) = true → ok = true ∧ w = true ∧ P = byteAt (cB b) (0 : Nat) ∧ n = numB (cB b) ∧ kF = k ∧ zF = z ∧ tn = decide (z < (((ByteArray.size b) : Nat) : Int)) ∧ (9 : TypeId) = (9 : TypeId) ∧ rs = rowP (cB b) (numB (cB b)) ∧ (5 : TypeId) = (5 : TypeId) ∧ vsF = vs ∧ True) ∧ (decide (ari BinOp.add IntKind.i64 (ari BinOp.add IntKind.i64 (ari BinOp.add IntKind.i64 a (1 : Int)) (IntKind.wrap IntKind.i64 (byteAt b (Int.toNat a)))) (4 : Int) > (((ByteArray.size b) : Nat) : Int)) = false → ((0 : Int) ≤ a ∧ (Int.toNat a ≤ (ByteArray.size b)) ∧ (0 : Int) ≤ ari BinOp.sub IntKind.i64 a (4 : Int) ∧ Int.toNat (ari BinOp.sub IntKind.i64 a (4 : Int)) ≤ Int.toNat a ∧ True) ∧ ((0 : Int) ≤ ari BinOp.add IntKind.i64 (ari BinOp.add IntKind.i64 a (1 : Int)) (IntKind.wrap IntKind.i64 (byteAt b (Int.toNat a))) ∧ (Int.toNat (ari BinOp.add IntKind.i64 (ari BinOp.add IntKind.i64 a (1 : Int)) (IntKind.wrap IntKind.i64 (byteAt b (Int.toNat a)))) ≤ (ByteArray.size b)) ∧ (0 : Int) ≤ a ∧ Int.toNat a ≤ Int.toNat (ari BinOp.add IntKind.i64 (ari BinOp.add IntKind.i64 a (1 : Int)) (IntKind.wrap IntKind.i64 (byteAt b (Int.toNat a)))) ∧ True) ∧ (ByteArray.size (ByteArray.extract b (Int.toNat (ari BinOp.sub IntKind.i64 a (4 : Int))) (Int.toNat a)) + ByteArray.size (ByteArray.extract b (Int.toNat a) (Int.toNat (ari BinOp.add IntKind.i64 (ari BinOp.add IntKind.i64 a (1 : Int)) (IntKind.wrap IntKind.i64 (byteAt b (Int.toNat a)))))) ≤ (1000000 : Nat) ∧ True) ∧ ((0 : Int) ≤ ari BinOp.add IntKind.i64 (ari BinOp.add IntKind.i64 a (1 : Int)) (IntKind.wrap IntKind.i64 (byteAt b (Int.toNat a))) ∧ (Int.toNat (ari BinOp.add IntKind.i64 (ari BinOp.add IntKind.i64 a (1 : Int)) (IntKind.wrap IntKind.i64 (byteAt b (Int.toNat a)))) ≤ (ByteArray.size b)) ∧ (0 : Int) ≤ ari BinOp.add IntKind.i64 a (1 : Int) ∧ Int.toNat (ari BinOp.add IntKind.i64 a (1 : Int)) ≤ Int.toNat (ari BinOp.add IntKind.i64 (ari BinOp.add IntKind.i64 a (1 : Int)) (IntKind.wrap IntKind.i64 (byteAt b (Int.toNat a)))) ∧ True) ∧ ((0 : Int) ≤ ari BinOp.add IntKind.i64 (ari BinOp.add IntKind.i64 (ari BinOp.add IntKind.i64 a (1 : Int)) (IntKind.wrap IntKind.i64 (byteAt b (Int.toNat a)))) (4 : Int) ∧ (Int.toNat (ari BinOp.add IntKind.i64 (ari BinOp.add IntKind.i64 (ari BinOp.add IntKind.i64 a (1 : Int)) (IntKind.wrap IntKind.i64 (byteAt b (Int.toNat a)))) (4 : Int)) ≤ (ByteArray.size b)) ∧ (0 : Int) ≤ a ∧ Int.toNat a ≤ Int.toNat (ari BinOp.add IntKind.i64 (ari BinOp.add IntKind.i64 (ari BinOp.add IntKind.i64 a (1 : Int)) (IntKind.wrap IntKind.i64 (byteAt b (Int.toNat a)))) (4 : Int)) ∧ True) ∧ (((match mkSB (false && false) !ByteArray.toList (smA (ByteArray.extract b (Int.toNat (ari BinOp.sub IntKind.i64 a (4 : Int))) (Int.toNat a)) (ByteArray.extract b (Int.toNat a) (Int.toNat (ari BinOp.add IntKind.i64 (ari BinOp.add IntKind.i64 a (1 : Int)) (IntKind.wrap IntKind.i64 (byteAt b (Int.toNat a))))))) == ByteArray.toList (ByteArray.extract b (Int.toNat a) (Int.toNat (ari BinOp.add IntKind.i64 (ari BinOp.add IntKind.i64 (ari BinOp.add IntKind.i64 a (1 : Int)) (IntKind.wrap IntKind.i64 (byteAt b (Int.toNat a)))) (4 : Int)))) with | SB.l b => b | SB.o b => b) == false) = true → (BytOk (Array.map (fun b => Value.int IntKind.u8 (↑(UInt8.toNat b) : Int)) (ByteArray.data (ByteArray.extract b (Int.toNat (ari BinOp.add IntKind.i64 a (1 : Int))) (Int.toNat (ari BinOp.add IntKind.i64 (ari BinOp.add IntKind.i64 a (1 : Int)) (IntKind.wrap IntKind.i64 (byteAt b (Int.toNat a)))))))) (0 : Nat) (ByteArray.size (ByteArray.extract b (Int.toNat (ari BinOp.add IntKind.i64 a (1 : Int))) (Int.toNat (ari BinOp.add IntKind.i64 (ari BinOp.add IntKind.i64 a (1 : Int)) (IntKind.wrap IntKind.i64 (byteAt b (Int.toNat a))))))) ∧ True) ∧ (((!(decide (ByteArray.size (ByteArray.extract b (Int.toNat (ari BinOp.add IntKind.i64 a (1 : Int))) (Int.toNat (ari BinOp.add IntKind.i64 (ari BinOp.add IntKind.i64 a (1 : Int)) (IntKind.wrap IntKind.i64 (byteAt b (Int.toNat a)))))) ≤ (4000 : Nat)) && !anyB (Array.map (fun b => Value.int IntKind.u8 (↑(UInt8.toNat b) : Int)) (ByteArray.data (ByteArray.extract b (Int.toNat (ari BinOp.add IntKind.i64 a (1 : Int))) (Int.toNat (ari BinOp.add IntKind.i64 (ari BinOp.add IntKind.i64 a (1 : Int)) (IntKind.wrap IntKind.i64 (byteAt b (Int.toNat a)))))))) (0 : Nat) (ByteArray.size (ByteArray.extract b (Int.toNat (ari BinOp.add IntKind.i64 a (1 : Int))) (Int.toNat (ari BinOp.add IntKind.i64 (ari BinOp.add IntKind.i64 a (1 : Int)) (IntKind.wrap IntKind.i64 (byteAt b (Int.toNat a))))))))) == false) = true → (decide (ari BinOp.add IntKind.i64 (↑k : Int) ((((ByteArray.size (ByteArray.extract b (Int.toNat (ari BinOp.add IntKind.i64 a (1 : Int))) (Int.toNat (ari BinOp.add IntKind.i64 (ari BinOp.add IntKind.i64 a (1 : Int)) (IntKind.wrap IntKind.i64 (byteAt b (Int.toNat a))))))) : Nat) : Int)) > (4000 : Int)) = true → ok = true ∧ w = true ∧ P = byteAt (cB b) (0 : Nat) ∧ n = numB (cB b) ∧ kF = k ∧ zF = z ∧ tn = decide (z < (((ByteArray.size b) : Nat) : Int)) ∧ (9 : TypeId) = (9 : TypeId) ∧ rs = rowP (cB b) (numB (cB b)) ∧ (5 : TypeId) = (5 : TypeId) ∧ vsF = vs ∧ True) ∧ (decide (ari BinOp.add IntKind.i64 (↑k : Int) ((((ByteArray.size (ByteArray.extract b (Int.toNat (ari BinOp.add IntKind.i64 a (1 : Int))) (Int.toNat (ari BinOp.add IntKind.i64 (ari BinOp.add IntKind.i64 a (1 : Int)) (IntKind.wrap IntKind.i64 (byteAt b (Int.toNat a))))))) : Nat) : Int)) > (4000 : Int)) = false → (((k + ByteArray.size (ByteArray.extract b (Int.toNat (ari BinOp.add IntKind.i64 a (1 : Int))) (Int.toNat (ari BinOp.add IntKind.i64 (ari BinOp.add IntKind.i64 a (1 : Int)) (IntKind.wrap IntKind.i64 (byteAt b (Int.toNat a))))))) * 1 ≤ (140737488355328 : Nat) ∧ k + ByteArray.size (ByteArray.extract b (Int.toNat (ari BinOp.add IntKind.i64 a (1 : Int))) (Int.toNat (ari BinOp.add IntKind.i64 (ari BinOp.add IntKind.i64 a (1 : Int)) (IntKind.wrap IntKind.i64 (byteAt b (Int.toNat a)))))) ≤ (140737488355328 : Nat)) ∧ k * 1 = Array.size vs ∧ True) ∧ Q1 (ari BinOp.add IntKind.i64 (ari BinOp.add IntKind.i64 (ari BinOp.add IntKind.i64 a (1 : Int)) (IntKind.wrap IntKind.i64 (byteAt b (Int.toNat a)))) (4 : Int)) (ari BinOp.add IntKind.i64 z (ari BinOp.add IntKind.i64 (ari BinOp.add IntKind.i64 (1 : Int) ((((ByteArray.size (ByteArray.extract b (Int.toNat (ari BinOp.add IntKind.i64 a (1 : Int))) (Int.toNat (ari BinOp.add IntKind.i64 (ari BinOp.add IntKind.i64 a (1 : Int)) (IntKind.wrap IntKind.i64 (byteAt b (Int.toNat a))))))) : Nat) : Int))) (4 : Int))) (k + ByteArray.size (ByteArray.extract b (Int.toNat (ari BinOp.add IntKind.i64 a (1 : Int))) (Int.toNat (ari BinOp.add IntKind.i64 (ari BinOp.add IntKind.i64 a (1 : Int)) (IntKind.wrap IntKind.i64 (byteAt b (Int.toNat a))))))) (vs ++ Array.map (fun b => Value.int IntKind.u8 (↑(UInt8.toNat b) : Int)) (ByteArray.data (ByteArray.extract b (Int.toNat (ari BinOp.add IntKind.i64 a (1 : Int))) (Int.toNat (ari BinOp.add IntKind.i64 (ari BinOp.add IntKind.i64 a (1 : Int)) (IntKind.wrap IntKind.i64 (byteAt b (Int.toNat a)))))))) ∧ CallKind.normal = CallKind.normal ∧ TodoOk (ren 0 [(0, 0), (1, 1), (2, 2), (3, 3), (4, 4), (5, 5), (6, 6), (7, 7), (8, 8), (9, 11)]) jrH0 jrH0 ∧ CallKind.normal = CallKind.normal ∧ TodoOk (ren 0 [(0, 0), (1, 1), (2, 2), (3, 3), (4, 4), (5, 5), (6, 6), (7, 7), (8, 8), (9, 11)]) jrT1 jrT1 ∧ Value.string b = Value.string b ∧ Value.string b = Value.string b ∧ Value.string b = Value.string b ∧ byteAt (cB b) (0 : Nat) = byteAt (cB b) (0 : Nat) ∧ numB (cB b) = numB (cB b) ∧ Value.slice none (0 : Nat) (0 : Nat) = Value.slice none (0 : Nat) (0 : Nat) ∧ (↑(endN b + 4) : Int) = (↑(endN b + 4) : Int) ∧ Fn.func (38 : Nat) = Fn.func (38 : Nat) ∧ byteAt (cB b) (0 : Nat) = byteAt (cB b) (0 : Nat) ∧ numB (cB b) = numB (cB b) ∧ Value.slice none (0 : Nat) (0 : Nat) = Value.slice none (0 : Nat) (0 : Nat) ∧ byteAt (cB b) (0 : Nat) = byteAt (cB b) (0 : Nat) ∧ numB (cB b) = numB (cB b) ∧ Value.slice none (0 : Nat) (0 : Nat) = Value.slice none (0 : Nat) (0 : Nat) ∧ (↑(endN b + 4) : Int) = (↑(endN b + 4) : Int) ∧ (↑(endN b + 4) : Int) = (↑(endN b + 4) : Int) ∧ byteAt (cB b) (0 : Nat) = byteAt (cB b) (0 : Nat) ∧ numB (cB b) = numB (cB b) ∧ Value.slice none (0 : Nat) (0 : Nat) = Value.slice none (0 : Nat) (0 : Nat) ∧ (↑(endN b + 4) : Int) = (↑(endN b + 4) : Int) ∧ (↑(endN b + 4) : Int) = (↑(endN b + 4) : Int) ∧ byteAt (cB b) (0 : Nat) = byteAt (cB b) (0 : Nat) ∧ numB (cB b) = numB (cB b) ∧ Value.slice none (0 : Nat) (0 : Nat) = Value.slice none (0 : Nat) (0 : Nat) ∧ (↑(endN b + 4) : Int) = (↑(endN b + 4) : Int) ∧ (↑(endN b + 4) : Int) = (↑(endN b + 4) : Int) ∧ Fn.func (30 : Nat) = Fn.func (30 : Nat) ∧ (39 : Nat) = (39 : Nat) ∧ Value.slice none (0 : Nat) (0 : Nat) = Value.slice none (0 : Nat) (0 : Nat) ∧ Value.slice none (0 : Nat) (0 : Nat) = Value.slice none (0 : Nat) (0 : Nat) ∧ (9 : TypeId) = (9 : TypeId) ∧ rowP (cB b) (numB (cB b)) = rowP (cB b) (numB (cB b)) ∧ (39 : Nat) = (39 : Nat) ∧ byteAt (cB b) (0 : Nat) = byteAt (cB b) (0 : Nat) ∧ numB (cB b) = numB (cB b) ∧ k + ByteArray.size (ByteArray.extract b (Int.toNat (ari BinOp.add IntKind.i64 a (1 : Int))) (Int.toNat (ari BinOp.add IntKind.i64 (ari BinOp.add IntKind.i64 a (1 : Int)) (IntKind.wrap IntKind.i64 (byteAt b (Int.toNat a)))))) = k + ByteArray.size (ByteArray.extract b (Int.toNat (ari BinOp.add IntKind.i64 a (1 : Int))) (Int.toNat (ari BinOp.add IntKind.i64 (ari BinOp.add IntKind.i64 a (1 : Int)) (IntKind.wrap IntKind.i64 (byteAt b (Int.toNat a)))))) ∧ ari BinOp.add IntKind.i64 z (ari BinOp.add IntKind.i64 (ari BinOp.add IntKind.i64 (1 : Int) ((((ByteArray.size (ByteArray.extract b (Int.toNat (ari BinOp.add IntKind.i64 a (1 : Int))) (Int.toNat (ari BinOp.add IntKind.i64 (ari BinOp.add IntKind.i64 a (1 : Int)) (IntKind.wrap IntKind.i64 (byteAt b (Int.toNat a))))))) : Nat) : Int))) (4 : Int)) = ari BinOp.add IntKind.i64 z (ari BinOp.add IntKind.i64 (ari BinOp.add IntKind.i64 (1 : Int) ((((ByteArray.size (ByteArray.extract b (Int.toNat (ari BinOp.add IntKind.i64 a (1 : Int))) (Int.toNat (ari BinOp.add IntKind.i64 (ari BinOp.add IntKind.i64 a (1 : Int)) (IntKind.wrap IntKind.i64 (byteAt b (Int.toNat a))))))) : Nat) : Int))) (4 : Int)) ∧ (9 : Nat) = (9 : Nat) ∧ Value.string b = Value.string b ∧ (5 : TypeId) = (5 : Nat) ∧ vs ++ Array.map (fun b => Value.int IntKind.u8 (↑(UInt8.toNat b) : Int)) (ByteArray.data (ByteArray.extract b (Int.toNat (ari BinOp.add IntKind.i64 a (1 : Int))) (Int.toNat (ari BinOp.add IntKind.i64 (ari BinOp.add IntKind.i64 a (1 : Int)) (IntKind.wrap IntKind.i64 (byteAt b (Int.toNat a))))))) = vs ++ Array.map (fun b => Value.int IntKind.u8 (↑(UInt8.toNat b) : Int)) (ByteArray.data (ByteArray.extract b (Int.toNat (ari BinOp.add IntKind.i64 a (1 : Int))) (Int.toNat (ari BinOp.add IntKind.i64 (ari BinOp.add IntKind.i64 a (1 : Int)) (IntKind.wrap IntKind.i64 (byteAt b (Int.toNat a))))))) ∧ (32 : Nat) = (32 : Nat) ∧ byteAt (cB b) (0 : Nat) = byteAt (cB b) (0 : Nat) ∧ numB (cB b) = numB (cB b) ∧ Value.slice none (0 : Nat) (0 : Nat) = Value.slice none (0 : Nat) (0 : Nat) ∧ (43 : Nat) = (43 : Nat) ∧ Fn.func (30 : Nat) = Fn.func (30 : Nat) ∧ (3 : Nat) = (3 : Nat) ∧ ari BinOp.add IntKind.i64 (ari BinOp.add IntKind.i64 (ari BinOp.add IntKind.i64 a (1 : Int)) (IntKind.wrap IntKind.i64 (byteAt b (Int.toNat a)))) (4 : Int) = ari BinOp.add IntKind.i64 (ari BinOp.add IntKind.i64 (ari BinOp.add IntKind.i64 a (1 : Int)) (IntKind.wrap IntKind.i64 (byteAt b (Int.toNat a)))) (4 : Int) ∧ EqL jrLp jrLp ∧ Value.string b = Value.string b ∧ Value.string b = Value.string b ∧ Value.string b = Value.string b ∧ byteAt (cB b) (0 : Nat) = byteAt (cB b) (0 : Nat) ∧ numB (cB b) = numB (cB b) ∧ Value.slice none (0 : Nat) (0 : Nat) = Value.slice none (0 : Nat) (0 : Nat) ∧ (↑(endN b + 4) : Int) = (↑(endN b + 4) : Int) ∧ Fn.func (38 : Nat) = Fn.func (38 : Nat) ∧ byteAt (cB b) (0 : Nat) = byteAt (cB b) (0 : Nat) ∧ numB (cB b) = numB (cB b) ∧ Value.slice none (0 : Nat) (0 : Nat) = Value.slice none (0 : Nat) (0 : Nat) ∧ byteAt (cB b) (0 : Nat) = byteAt (cB b) (0 : Nat) ∧ numB (cB b) = numB (cB b) ∧ Value.slice none (0 : Nat) (0 : Nat) = Value.slice none (0 : Nat) (0 : Nat) ∧ (↑(endN b + 4) : Int) = (↑(endN b + 4) : Int) ∧ (↑(endN b + 4) : Int) = (↑(endN b + 4) : Int) ∧ byteAt (cB b) (0 : Nat) = byteAt (cB b) (0 : Nat) ∧ numB (cB b) = numB (cB b) ∧ Value.slice none (0 : Nat) (0 : Nat) = Value.slice none (0 : Nat) (0 : Nat) ∧ (↑(endN b + 4) : Int) = (↑(endN b + 4) : Int) ∧ (↑(endN b + 4) : Int) = (↑(endN b + 4) : Int) ∧ byteAt (cB b) (0 : Nat) = byteAt (cB b) (0 : Nat) ∧ numB (cB b) = numB (cB b) ∧ Value.slice none (0 : Nat) (0 : Nat) = Value.slice none (0 : Nat) (0 : Nat) ∧ (↑(endN b + 4) : Int) = (↑(endN b + 4) : Int) ∧ (↑(endN b + 4) : Int) = (↑(endN b + 4) : Int) ∧ Fn.func (30 : Nat) = Fn.func (30 : Nat) ∧ True)) ∧ (((!(decide (ByteArray.size (ByteArray.extract b (Int.toNat (ari BinOp.add IntKind.i64 a (1 : Int))) (Int.toNat (ari BinOp.add IntKind.i64 (ari BinOp.add IntKind.i64 a (1 : Int)) (IntKind.wrap IntKind.i64 (byteAt b (Int.toNat a)))))) ≤ (4000 : Nat)) && !anyB (Array.map (fun b => Value.int IntKind.u8 (↑(UInt8.toNat b) : Int)) (ByteArray.data (ByteArray.extract b (Int.toNat (ari BinOp.add IntKind.i64 a (1 : Int))) (Int.toNat (ari BinOp.add IntKind.i64 (ari BinOp.add IntKind.i64 a (1 : Int)) (IntKind.wrap IntKind.i64 (byteAt b (Int.toNat a)))))))) (0 : Nat) (ByteArray.size (ByteArray.extract b (Int.toNat (ari BinOp.add IntKind.i64 a (1 : Int))) (Int.toNat (ari BinOp.add IntKind.i64 (ari BinOp.add IntKind.i64 a (1 : Int)) (IntKind.wrap IntKind.i64 (byteAt b (Int.toNat a))))))))) == false) = false → ok = true ∧ w = true ∧ P = byteAt (cB b) (0 : Nat) ∧ n = numB (cB b) ∧ kF = k ∧ zF = z ∧ tn = decide (z < (((ByteArray.size b) : Nat) : Int)) ∧ (9 : TypeId) = (9 : TypeId) ∧ rs = rowP (cB b) (numB (cB b)) ∧ (5 : TypeId) = (5 : TypeId) ∧ vsF = vs ∧ True)) ∧ (((match mkSB (false && false) !ByteArray.toList (smA (ByteArray.extract b (Int.toNat (ari BinOp.sub IntKind.i64 a (4 : Int))) (Int.toNat a)) (ByteArray.extract b (Int.toNat a) (Int.toNat (ari BinOp.add IntKind.i64 (ari BinOp.add IntKind.i64 a (1 : Int)) (IntKind.wrap IntKind.i64 (byteAt b (Int.toNat a))))))) == ByteArray.toList (ByteArray.extract b (Int.toNat a) (Int.toNat (ari BinOp.add IntKind.i64 (ari BinOp.add IntKind.i64 (ari BinOp.add IntKind.i64 a (1 : Int)) (IntKind.wrap IntKind.i64 (byteAt b (Int.toNat a)))) (4 : Int)))) with | SB.l b => b | SB.o b => b) == false) = false → ok = true ∧ w = true ∧ P = byteAt (cB b) (0 : Nat) ∧ n = numB (cB b) ∧ kF = k ∧ zF = z ∧ tn = decide (z < (((ByteArray.size b) : Nat) : Int)) ∧ (9 : TypeId) = (9 : TypeId) ∧ rs = rowP (cB b) (numB (cB b)) ∧ (5 : TypeId) = (5 : TypeId) ∧ vsF = vs ∧ True))) ∧ ((decide (IntKind.wrap IntKind.i64 (byteAt b (Int.toNat a)) > (200 : Int)) == false) = false → ok = true ∧ w = true ∧ P = byteAt (cB b) (0 : Nat) ∧ n = numB (cB b) ∧ kF = k ∧ zF = z ∧ tn = decide (z < (((ByteArray.size b) : Nat) : Int)) ∧ (9 : TypeId) = (9 : TypeId) ∧ rs = rowP (cB b) (numB (cB b)) ∧ (5 : TypeId) = (5 : TypeId) ∧ vsF = vs ∧ True)) ∧ ((decide (IntKind.wrap IntKind.i64 (byteAt b (Int.toNat a)) < (1 : Int)) == false) = false → ok = true ∧ w = true ∧ P = byteAt (cB b) (0 : Nat) ∧ n = numB (cB b) ∧ kF = k ∧ zF = z ∧ tn = decide (z < (((ByteArray.size b) : Nat) : Int)) ∧ (9 : TypeId) = (9 : TypeId) ∧ rs = rowP (cB b) (numB (cB b)) ∧ (5 : TypeId) = (5 : TypeId) ∧ vsF = vs ∧ True)) ∧ (decide (a < (((ByteArray.size b) : Nat) : Int)) = false → ok = true ∧ w = true ∧ P = byteAt (cB b) (0 : Nat) ∧ n = numB (cB b) ∧ kF = k ∧ zF = z ∧ tn = decide (z < (((ByteArray.size b) : Nat) : Int)) ∧ (9 : TypeId) = (9 : TypeId) ∧ rs = rowP (cB b) (numB (cB b)) ∧ (5 : TypeId) = (5 : TypeId) ∧ vsF = vs ∧ True)) := by kernel_rfl
end Go.Proofs.Ytapkbgccbmjfaaa
/- Of journal: the records that Read goes over, and its rounds behind the first. No condition. -/
namespace Go.Proofs.Ytapkbgccbmjfaaa
set_option linter.unusedSectionVars false
set_option linter.unusedVariables false
set_option maxRecDepth 100000
set_option maxHeartbeats 2000000
theorem conR_ok (g : FuncId) (l : List SV) (m : SMem) (t : Tree) (h : conR g l m = some t) : Con E0 g l m t := by
  unfold conR at h
  split at h
  · exact smT_ok h
  · exact hdT_ok h
  · exact mpT_ok h
  · cases h
theorem ER_ok : EnvOk ER := EnvOk.with E0_ok _ _ conR_ok
def recN (b : ByteArray) (a : Nat) : Nat := (byteAt b a).toNat
def recE (b : ByteArray) (a : Nat) : Nat := a + 1 + recN b a
def recP (b : ByteArray) (a : Nat) : ByteArray := b.extract (a + 1) (recE b a)
def recW (b : ByteArray) (a : Nat) : Bool := decide (1 ≤ recN b a ∧ recN b a ≤ 200 ∧ recE b a + 4 ≤ b.size)
def recS (b : ByteArray) (a : Nat) : Bool := (smA (b.extract (a - 4) a) (b.extract a (recE b a))).toList == (b.extract a (recE b a + 4)).toList
def recOk (b : ByteArray) (a k : Nat) : Bool := decide (a < b.size) && recW b a && recS b a && !anyB (celA (recP b a)) 0 (recP b a).size && decide (k + recN b a ≤ 4000)
def scanA (b : ByteArray) : Nat → Nat → ByteArray → Nat × ByteArray
  | 0, a, q => (a, q)
  | K + 1, a, q => if recOk b a q.size then scanA b K (recE b a + 4) (q ++ recP b a) else (a, q)
theorem scan_no {b : ByteArray} {a : Nat} {q : ByteArray} (h : recOk b a q.size = false) (K : Nat) : scanA b K a q = (a, q) := by
  cases K with
  | zero => rfl
  | succ K => unfold scanA; rw [h]; rfl
theorem scan_yes {b : ByteArray} {a : Nat} {q : ByteArray} (h : recOk b a q.size = true) (K : Nat) : scanA b (K + 1) a q = scanA b K (recE b a + 4) (q ++ recP b a) := by
  show (if recOk b a q.size then _ else _) = _
  rw [h]; rfl
theorem celA_app (p q : ByteArray) : celA (p ++ q) = celA p ++ celA q := by
  unfold celA
  rw [ByteArray.data_append, Array.map_append]
theorem recP_size {b : ByteArray} {a : Nat} (h : recE b a ≤ b.size) : (recP b a).size = recN b a := by
  unfold recP
  rw [ext_size]
  unfold recE at *
  omega
theorem recN_le (b : ByteArray) (a : Nat) : recN b a ≤ 255 := by
  have := byteAt_range b a
  unfold recN
  omega
theorem rec_eqs (b : ByteArray) (a : Nat) (h : a ≤ 1000000) (h4 : 4 ≤ a) : IntKind.wrap .i64 (byteAt b a) = (recN b a : Int) ∧ ari .add .i64 (a : Int) 1 = ((a + 1 : Nat) : Int) ∧ ari .add .i64 ((a + 1 : Nat) : Int) (recN b a : Int) = (recE b a : Int) ∧ ari .add .i64 (recE b a : Int) 4 = ((recE b a + 4 : Nat) : Int) ∧ ari .sub .i64 (a : Int) 4 = ((a - 4 : Nat) : Int) := by
  have r := byteAt_range b a
  have rn := recN_le b a
  refine ⟨?_, ?_, ?_, ?_, ?_⟩
  · rw [Go.IntWalk.i64_in _ (by omega)]; unfold recN; omega
  · rw [ari_add, Go.IntWalk.i64_in _ (by omega)]; omega
  · rw [ari_add, Go.IntWalk.i64_in _ (by omega)]; unfold recE; omega
  · unfold recE at *; rw [ari_add, Go.IntWalk.i64_in _ (by omega)]; omega
  · rw [ari_sub, Go.IntWalk.i64_in _ (by omega)]; omega
/-- What Read answers, by the place where its records end and the picks there. -/
def reAb (b : ByteArray) (x : Nat × ByteArray) : SV → SMem → Prop := reA true (decide (x.2.size ≠ 0)) (byteAt (cB b) 0) (numB (cB b)) x.2.size x.1 (decide (x.1 < b.size)) (rowP (cB b) (numB (cB b))) (celA x.2)
theorem jrN_good {b : ByteArray} {A : SV → SMem → Prop} {Q0 : Int → Int → Prop} {Q1 : Int → Int → Nat → Array Value → Prop}
    (hg0 : ∀ a z, Q0 a z → Good ER.P A 0 (headF (jrF b)) (jrM0 b a z)) (hg1 : ∀ a z k vs, Q1 a z k vs → Good ER.P A 0 (headF (jrF b)) (jrM1 b a z k vs)) {fs : List SFr} {m : SMem} (hb : jrN b Q0 Q1 fs m) : Good ER.P A 0 fs m := by
  unfold jrN at hb
  generalize jrF b = F at *
  generalize jrM0 b = M0' at *
  generalize jrM1 b = M1' at *
  split at hb
  · exact Good.of_sub hb.2 (hg0 _ _ hb.1)
  · split at hb
    · exact Good.of_sub hb.2 (hg1 _ _ _ _ hb.1)
    · exact hb.elim
  · exact hb.elim
theorem jrN0_good {b : ByteArray} {A : SV → SMem → Prop} {Q0 : Int → Int → Prop} (hg0 : ∀ a z, Q0 a z → Good ER.P A 0 (headF (jrF b)) (jrM0 b a z)) {fs : List SFr} {m : SMem} (hb : jrN0 b Q0 fs m) : Good ER.P A 0 fs m := by
  unfold jrN0 at hb
  generalize jrF b = F at *
  generalize jrM0 b = M0' at *
  split at hb
  · exact Good.of_sub hb.2 (Good.head (hg0 _ _ hb.1))
  · exact hb.elim
theorem jrH0_9 (i : Nat) : TodoOk (ren 0 [(0, 0), (1, 1), (2, 2), (3, 3), (4, 4), (5, 5), (6, 6), (7, 7), (8, 8), (9, i)]) jrH0 jrH0 := TodoOk.same (by kernel_rfl)
theorem jrT1_9 (i : Nat) : TodoOk (ren 0 [(0, 0), (1, 1), (2, 2), (3, 3), (4, 4), (5, 5), (6, 6), (7, 7), (8, 8), (9, i)]) jrT1 jrT1 := TodoOk.same (by kernel_rfl)
theorem jrH0_8 : TodoOk (ren 0 [(0, 0), (1, 1), (2, 2), (3, 3), (4, 4), (5, 5), (6, 6), (7, 7), (8, 8)]) jrH0 jrH0 := TodoOk.same (by kernel_rfl)
theorem jrT0_8 : TodoOk (ren 0 [(0, 0), (1, 1), (2, 2), (3, 3), (4, 4), (5, 5), (6, 6), (7, 7), (8, 8)]) jrT0 jrT0 := TodoOk.same (by kernel_rfl)
theorem jrT1_8 : TodoOk (ren 0 [(0, 0), (1, 1), (2, 2), (3, 3), (4, 4), (5, 5), (6, 6), (7, 7), (8, 8)]) jrT1 jrT1 := TodoOk.same (by kernel_rfl)
theorem mk_no {x y : List UInt8} (h : ((match mkSB (false && false) (!x == y) with | SB.l b => b | SB.o b => b) == false) = false) : (x == y) = false := by
  cases e : (x == y) with
  | false => rfl
  | true => rw [e] at h; exact absurd h (by decide)
theorem mk_yes {x y : List UInt8} (h : ((match mkSB (false && false) (!x == y) with | SB.l b => b | SB.o b => b) == false) = true) : (x == y) = true := by
  cases e : (x == y) with
  | true => rfl
  | false => rw [e] at h; exact absurd h (by decide)
/-! The steps of a round, as they are decided. -/
theorem no_end {b : ByteArray} {a : Nat} (k : Nat) (h : decide ((a : Int) < ((b.size : Nat) : Int)) = false) : recOk b a k = false := by
  have h := of_decide_eq_false h
  unfold recOk
  rw [decide_eq_false (p := a < b.size) (by omega)]; rfl
theorem no_small {b : ByteArray} {a : Nat} (k : Nat) (h : (decide ((recN b a : Int) < 1) == false) = false) : recOk b a k = false := by
  have : decide ((recN b a : Int) < 1) = true := (by simpa using h)
  have h := of_decide_eq_true this
  unfold recOk recW
  rw [decide_eq_false (p := 1 ≤ recN b a ∧ recN b a ≤ 200 ∧ recE b a + 4 ≤ b.size) (by omega), Bool.and_false]; rfl
theorem no_big {b : ByteArray} {a : Nat} (k : Nat) (h : (decide ((recN b a : Int) > 200) == false) = false) : recOk b a k = false := by
  have : decide ((recN b a : Int) > 200) = true := (by simpa using h)
  have h := of_decide_eq_true this
  unfold recOk recW
  rw [decide_eq_false (p := 1 ≤ recN b a ∧ recN b a ≤ 200 ∧ recE b a + 4 ≤ b.size) (by omega), Bool.and_false]; rfl
theorem no_room {b : ByteArray} {a : Nat} (k : Nat) (h : decide (((recE b a + 4 : Nat) : Int) > ((b.size : Nat) : Int)) = true) : recOk b a k = false := by
  have h := of_decide_eq_true h
  unfold recOk recW
  rw [decide_eq_false (p := 1 ≤ recN b a ∧ recN b a ≤ 200 ∧ recE b a + 4 ≤ b.size) (by omega), Bool.and_false]; rfl
theorem no_sum {b : ByteArray} {a : Nat} (k : Nat) (h : recS b a = false) : recOk b a k = false := by
  unfold recOk
  rw [h, Bool.and_false]; rfl
theorem no_pick {b : ByteArray} {a : Nat} (k : Nat) (hs : (recP b a).size ≤ 4000) (h : ((!(decide ((recP b a).size ≤ 4000) && !anyB (celA (recP b a)) 0 (recP b a).size)) == false) = false) : recOk b a k = false := by
  rw [decide_eq_true hs, Bool.true_and] at h
  unfold recOk
  cases e : anyB (celA (recP b a)) 0 (recP b a).size with
  | true => rw [Bool.not_true, Bool.and_false]; rfl
  | false => rw [e] at h; exact absurd h (by decide)
theorem no_many {b : ByteArray} {a : Nat} {k : Nat} (h : ¬ k + recN b a ≤ 4000) : recOk b a k = false := by
  unfold recOk
  rw [decide_eq_false h, Bool.and_false]
theorem yes_all {b : ByteArray} {a : Nat} {k : Nat} (h1 : a < b.size) (h2 : 1 ≤ recN b a ∧ recN b a ≤ 200 ∧ recE b a + 4 ≤ b.size) (h3 : recS b a = true) (hs : (recP b a).size ≤ 4000) (h4 : ((!(decide ((recP b a).size ≤ 4000) && !anyB (celA (recP b a)) 0 (recP b a).size)) == false) = true) (h5 : k + recN b a ≤ 4000) : recOk b a k = true := by
  rw [decide_eq_true hs, Bool.true_and] at h4
  unfold recOk recW
  rw [decide_eq_true h1, decide_eq_true h2, h3, decide_eq_true h5]
  cases e : anyB (celA (recP b a)) 0 (recP b a).size with
  | false => rfl
  | true => rw [e] at h4; exact absurd h4 (by decide)
section
variable (b : ByteArray) (hb : b.size ≤ 100000)
include hb
theorem k_round : ∀ (K a : Nat) (q : ByteArray), b.size - a < K → 4 ≤ a → a ≤ b.size → 1 ≤ q.size → q.size ≤ 4000 → Good ER.P (reAb b (scanA b K a q)) 0 (headF (jrF b)) (jrM1 b a a q.size (celA q)) := by
  intro K
  induction K with
  | zero => intro a q h; omega
  | succ K ih =>
    intro a q hk h4 ha hq1 hq4
    refine past_vc ER_ok 1000 (k_step b (a : Int) (a : Int) q.size (celA q) _ _ _ _ _ _ _ _ _ (fun _ _ => False) (fun a' z' k' vs' => recOk b a q.size = true ∧ a' = ((recE b a + 4 : Nat) : Int) ∧ z' = a' ∧ k' = (q ++ recP b a).size ∧ vs' = celA (q ++ recP b a))) ?_ (fun _ _ h => h)
      (fun fs m hb' => jrN_good (fun _ _ h => h.elim) (fun a' z' k' vs' h => ?_) hb')
    rotate_left
    · obtain ⟨h0, rfl, rfl, rfl, rfl⟩ := h
      rw [scan_yes h0]
      have h1 := h0
      unfold recOk recW at h1
      simp only [Bool.and_eq_true, decide_eq_true_eq] at h1
      obtain ⟨⟨⟨⟨h1, h2, h3, h5⟩, _⟩, _⟩, h6⟩ := h1
      have hs := recP_size (b := b) (a := a) (by omega)
      refine ih (recE b a + 4) (q ++ recP b a) ?_ ?_ ?_ ?_ ?_
      · unfold recE; omega
      · omega
      · omega
      · rw [ByteArray.size_append]; omega
      · rw [ByteArray.size_append]; omega
    have hex : recOk b a q.size = false → scanA b (K + 1) a q = (a, q) := fun h => scan_no h _
    have hA : ∀ r : Nat × ByteArray, r = (a, q) → true = true ∧ decide (r.2.size ≠ 0) = true ∧ byteAt (cB b) 0 = byteAt (cB b) 0 ∧ numB (cB b) = numB (cB b) ∧ r.2.size = q.size ∧ (r.1 : Int) = (a : Int) ∧ decide (r.1 < b.size) = decide ((a : Int) < ((b.size : Nat) : Int)) ∧ (9 : TypeId) = (9 : TypeId) ∧ rowP (cB b) (numB (cB b)) = rowP (cB b) (numB (cB b)) ∧ (5 : TypeId) = (5 : TypeId) ∧ celA r.2 = celA q ∧ True := fun r e => by
      subst e
      refine ⟨rfl, decide_eq_true (by show q.size ≠ 0; omega), rfl, rfl, rfl, rfl, ?_, rfl, rfl, rfl, rfl, trivial⟩
      exact decide_eq_decide.2 (by omega)
    generalize scanA b (K + 1) a q = r at *
    obtain ⟨e1, e2, e3, e4, e5⟩ := rec_eqs b a (by omega) h4
    rw [Int.toNat_natCast, e2, e1, e3, e4, e5, Int.toNat_natCast, Int.toNat_natCast, Int.toNat_natCast, Int.toNat_natCast]
    have hrn := recN_le b a
    have hre : recE b a = a + 1 + recN b a := rfl
    refine ⟨fun h1 => ⟨⟨⟨by omega, by have := of_decide_eq_true h1; omega⟩, trivial⟩, fun h2 => ⟨fun h3 => ⟨fun h5 => hA r (hex (no_room _ h5)), fun h5 => ?_⟩, fun h3 => hA r (hex (no_big _ h3))⟩, fun h2 => hA r (hex (no_small _ h2))⟩, fun h1 => hA r (hex (no_end _ h1))⟩
    have h1 := of_decide_eq_true h1
    have h2 : ¬ recN b a < 1 := by have : decide ((recN b a : Int) < 1) = false := (by simpa using h2); have := of_decide_eq_false this; omega
    have h3 : ¬ recN b a > 200 := by have : decide ((recN b a : Int) > 200) = false := (by simpa using h3); have := of_decide_eq_false this; omega
    have h5 := of_decide_eq_false h5
    have hs : (recP b a).size = recN b a := recP_size (by omega)
    rw [show b.extract (a + 1) (recE b a) = recP b a from rfl, show Array.map (fun b => Value.int IntKind.u8 (↑(UInt8.toNat b) : Int)) (ByteArray.data (recP b a)) = celA (recP b a) from rfl]
    refine ⟨⟨by omega, by omega, by omega, by omega, trivial⟩, ⟨by omega, by omega, by omega, by omega, trivial⟩, ⟨by rw [ext_size, ext_size]; omega, trivial⟩, ⟨by omega, by omega, by omega, by omega, trivial⟩, ⟨by omega, by omega, by omega, by omega, trivial⟩, fun h6 => ⟨⟨celA_ok _ (by omega), trivial⟩, fun h7 => ⟨fun h8 => ?_, fun h8 => ?_⟩, fun h7 => hA r (hex (no_pick _ (by omega) h7))⟩, fun h6 => hA r (hex (no_sum _ (mk_no h6)))⟩
    · rw [hs, ari_add, Go.IntWalk.i64_in _ (by omega)] at h8
      have h8 := of_decide_eq_true h8
      exact hA r (hex (no_many (by omega)))
    · rw [hs, ari_add, Go.IntWalk.i64_in _ (by omega)] at h8
      have h8 := of_decide_eq_false h8
      have hz : ari .add .i64 (a : Int) (ari .add .i64 (ari .add .i64 1 (((recP b a).size : Nat) : Int)) 4) = ((recE b a + 4 : Nat) : Int) := by
        rw [hs, ari_add, ari_add, ari_add, Go.IntWalk.i64_in (1 + _) (by omega), Go.IntWalk.i64_in (_ + 4) (by omega), Go.IntWalk.i64_in _ (by omega)]
        omega
      rw [hz, ← celA_app, ← ByteArray.size_append]
      have hok := yes_all (show a < b.size by omega) ⟨by omega, by omega, by omega⟩ (mk_yes h6) (by omega) h7 (show q.size + recN b a ≤ 4000 by omega)
      have hzz : (q ++ recP b a).size = q.size + recN b a := by rw [ByteArray.size_append, hs]
      generalize hX : celA (q ++ recP b a) = X
      refine ⟨⟨⟨by omega, by omega⟩, by rw [celA_size]; omega, trivial⟩, ⟨hok, rfl, rfl, rfl, rfl⟩, ?_⟩
      clear hA hex ih
      have hH := jrH0_9
      have hT := jrT1_9
      have hL : EqL jrLp jrLp := Eq.refl jrLp
      generalize jrH0 = H at *
      generalize jrT1 = T at *
      generalize jrLp = L at *
      repeat' first | exact trivial | exact rfl | exact hH _ | exact hT _ | exact hL | apply And.intro
end
end Go.Proofs.Ytapkbgccbmjfaaa
