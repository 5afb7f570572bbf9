/- Of task: the rounds of TaskGoes, as propositions. No condition. -/
import Derived.Test.YtkidmmgkfopecaaMA
import Derived.Test.YtkidmmgkfopecaaP8
namespace Go.Proofs.Ytkidmmgkfopecaa
set_option maxRecDepth 100000
theorem go_start (b : ByteArray) (off n : Nat) (rs : Array Value) (ty : TypeId) (k : Nat) (Q : Int → Int → Rg → Array Value → Prop) : (gR0 true b off n rs ty).vc (boolR true) (oN false off n rs ty k Q) =
    (((decide ((match match mkSN false (ByteArray.size b) with | SN.l n => SI.l (↑n : Int) | SN.o n => SI.o (↑n : Int) with | SI.l n => n | SI.o n => n) > (1000 : Int)) == false) = true → (decide ((↑n : Int) > (200 : Int)) = true → true = true) ∧ (decide ((↑n : Int) > (200 : Int)) = false → (ByteArray.size b ≠ (0 : Nat) ∧ ByteArray.size b < (9223372036854775807 : Nat) ∧ True) ∧ (decOk b = true → Q (0 : Int) (0 : Int) (Rg.mk (0 : Int) (0 : Int) (0 : Int) (0 : Int) (0 : Int) (0 : Int) (0 : Int) (0 : Int)) (rowD b) ∧ CallKind.normal = CallKind.normal ∧ TodoOk (ren 1 [(1, 3), (2, 2)]) oTd oTd ∧ off = off ∧ n = n ∧ (↑k : Int) = (↑(sizeD b) : Int) ∧ (0 : Int) = (0 : Int) ∧ ty = ty ∧ rs = rs ∧ (28 : TypeId) = (28 : Nat) ∧ k = sizeD b ∧ (0 : Int) = (0 : Int) ∧ (0 : Int) = (0 : Int) ∧ (0 : Int) = (0 : Int) ∧ (0 : Int) = (0 : Int) ∧ (0 : Int) = (0 : Int) ∧ (0 : Int) = (0 : Int) ∧ (0 : Int) = (0 : Int) ∧ (0 : Int) = (0 : Int) ∧ (0 : Int) = (0 : Int) ∧ (62 : TypeId) = (62 : TypeId) ∧ rowD b = rowD b ∧ True) ∧ (decOk b = false → true = true))) ∧ ((decide ((match match mkSN false (ByteArray.size b) with | SN.l n => SI.l (↑n : Int) | SN.o n => SI.o (↑n : Int) with | SI.l n => n | SI.o n => n) > (1000 : Int)) == false) = false → true = true)) := by kernel_rfl
theorem go_z (off n : Nat) (rs : Array Value) (ty : TypeId) (Q : Int → Prop) : (gR0 false .empty off n rs ty).vc (boolR true) (zN false off n rs ty Q) =
    ((decide ((↑n : Int) > (200 : Int)) = true → true = true) ∧ (decide ((↑n : Int) > (200 : Int)) = false → Q (0 : Int) ∧ CallKind.normal = CallKind.normal ∧ TodoOk (ren 1 [(1, 2)]) oTd oTd ∧ off = off ∧ n = n ∧ (0 : Int) = (0 : Int) ∧ ty = ty ∧ rs = rs ∧ (28 : TypeId) = (28 : Nat) ∧ Value.slice none (0 : Nat) (0 : Nat) = Value.slice none (0 : Nat) (0 : Nat) ∧ True)) := by kernel_rfl
theorem go_z1 (off n : Nat) (rs : Array Value) (ty : TypeId) (i : Int) (Q : Int → Prop) : (zS off n rs ty i).vc (boolR true) (zN true off n rs ty Q) =
    ((decide (i < (↑n : Int)) = true → (((0 : Int) ≤ i ∧ i < (↑n : Int)) ∧ True) ∧ (IsInt IntKind.i64 rs (off + Int.toNat i * 3) ∧ IsInt IntKind.u64 rs (off + Int.toNat i * 3 + 1) ∧ IsInt IntKind.u32 rs (off + Int.toNat i * 3 + 2) ∧ True) ∧ Q (ari BinOp.add IntKind.i64 i (1 : Int)) ∧ CallKind.normal = CallKind.normal ∧ TodoOk (ren 1 [(1, 1)]) oHd oHd ∧ off = off ∧ n = n ∧ ari BinOp.add IntKind.i64 i (1 : Int) = ari BinOp.add IntKind.i64 i (1 : Int) ∧ ty = ty ∧ rs = rs ∧ (28 : TypeId) = (28 : TypeId) ∧ Value.slice none (0 : Nat) (0 : Nat) = Value.slice none (0 : Nat) (0 : Nat) ∧ True) ∧ (decide (i < (↑n : Int)) = false → true = true)) := by kernel_rfl
theorem go_0 (off n : Nat) (rs : Array Value) (ty : TypeId) (k : Nat) (i nx : Int) (g : Rg) (row : Array Value) (Q : Int → Int → Rg → Array Value → Prop) : (oS true 0 off n rs ty k i nx g row).vc (boolR true) (iN false off n rs ty k 0 i nx g row true Q) =
    ((decide (i < (↑n : Int)) = true → ((↑k : Int) ≤ nx ∧ True) ∧ ((0 : Nat) + k * 5 ≤ Array.size row ∧ (((0 : Nat) + k) * 6 ≤ (140737488355328 : Nat) ∧ (0 : Nat) + k ≤ (140737488355328 : Nat)) ∧ True) ∧ ((↑((0 : Nat) + k) : Int) ≤ nx ∧ True) ∧ (((nx != nx) == false) = true → ((!(Rg.r0 g == Rg.r0 g && (Rg.r1 g == Rg.r1 g && (Rg.r2 g == Rg.r2 g && (Rg.r3 g == Rg.r3 g && (Rg.r4 g == Rg.r4 g && (Rg.r5 g == Rg.r5 g && (Rg.r6 g == Rg.r6 g && Rg.r7 g == Rg.r7 g)))))))) = true → false = true) ∧ ((!(Rg.r0 g == Rg.r0 g && (Rg.r1 g == Rg.r1 g && (Rg.r2 g == Rg.r2 g && (Rg.r3 g == Rg.r3 g && (Rg.r4 g == Rg.r4 g && (Rg.r5 g == Rg.r5 g && (Rg.r6 g == Rg.r6 g && Rg.r7 g == Rg.r7 g)))))))) = false → (((0 : Int) ≤ i ∧ i < (↑n : Int)) ∧ True) ∧ (IsInt IntKind.i64 rs (off + Int.toNat i * 3) ∧ IsInt IntKind.u64 rs (off + Int.toNat i * 3 + 1) ∧ IsInt IntKind.u32 rs (off + Int.toNat i * 3 + 2) ∧ True) ∧ ((0 : Nat) + k * 5 ≤ Array.size row ∧ (((0 : Nat) + k) * 6 ≤ (140737488355328 : Nat) ∧ (0 : Nat) + k ≤ (140737488355328 : Nat)) ∧ True) ∧ ((↑((0 : Nat) + k) : Int) ≤ nx ∧ True) ∧ ((↑((0 : Nat) + k) : Int) ≤ nx ∧ True) ∧ Q (0 : Int) nx (Rg.mk (Rg.r0 g) (Rg.r1 g) (Rg.r2 g) (Rg.r3 g) (Rg.r4 g) (Rg.r5 g) (Rg.r6 g) (Rg.r7 g)) (Array.extract row (0 : Nat) ((0 : Nat) + k * 5)) ∧ CallKind.normal = CallKind.normal ∧ TodoOk (ren 1 [(1, 1), (2, 2), (3, 9), (4, 14)]) iTd iTd ∧ off = off ∧ n = n ∧ (↑k : Int) = (↑k : Int) ∧ i = i ∧ (0 : Int) = (0 : Int) ∧ true = true ∧ ty = ty ∧ rs = rs ∧ (28 : TypeId) = (28 : TypeId) ∧ k = k ∧ nx = nx ∧ Rg.r0 g = Rg.r0 g ∧ Rg.r1 g = Rg.r1 g ∧ Rg.r2 g = Rg.r2 g ∧ Rg.r3 g = Rg.r3 g ∧ Rg.r4 g = Rg.r4 g ∧ Rg.r5 g = Rg.r5 g ∧ Rg.r6 g = Rg.r6 g ∧ Rg.r7 g = Rg.r7 g ∧ (28 : TypeId) = (28 : Nat) ∧ k = (0 : Nat) + k ∧ nx = nx ∧ Rg.r0 g = Rg.r0 g ∧ Rg.r1 g = Rg.r1 g ∧ Rg.r2 g = Rg.r2 g ∧ Rg.r3 g = Rg.r3 g ∧ Rg.r4 g = Rg.r4 g ∧ Rg.r5 g = Rg.r5 g ∧ Rg.r6 g = Rg.r6 g ∧ Rg.r7 g = Rg.r7 g ∧ (62 : TypeId) = (62 : TypeId) ∧ row = row ∧ (62 : TypeId) = (62 : Nat) ∧ Array.extract row (0 : Nat) ((0 : Nat) + k * 5) = Array.extract row (0 : Nat) ((0 : Nat) + k * 5) ∧ True)) ∧ (((nx != nx) == false) = false → false = true)) ∧ (decide (i < (↑n : Int)) = false → true = true)) := by kernel_rfl
theorem go_1 (off n : Nat) (rs : Array Value) (ty : TypeId) (k : Nat) (i nx : Int) (g : Rg) (row : Array Value) (Q : Int → Int → Rg → Array Value → Prop) : (oS true 1 off n rs ty k i nx g row).vc (boolR true) (iN false off n rs ty k 0 i nx g row true Q) =
    ((decide (i < (↑n : Int)) = true → (((0 : Int) ≤ nx ∧ nx < (↑k : Int)) ∧ InsAt row (at5 (0 : Nat) nx) ∧ in8 row (at5 (0 : Nat) nx) ∧ intAt row (at5 (0 : Nat) nx) = (0 : Int) ∧ True) ∧ ((0 : Nat) + k * 5 ≤ Array.size row ∧ (((0 : Nat) + k) * 6 ≤ (140737488355328 : Nat) ∧ (0 : Nat) + k ≤ (140737488355328 : Nat)) ∧ True) ∧ (((0 : Int) ≤ nx ∧ nx < (↑((0 : Nat) + k) : Int)) ∧ InsAt (Array.extract row (0 : Nat) ((0 : Nat) + k * 5)) (at5 (0 : Nat) nx) ∧ in8 (Array.extract row (0 : Nat) ((0 : Nat) + k * 5)) (at5 (0 : Nat) nx) ∧ intAt (Array.extract row (0 : Nat) ((0 : Nat) + k * 5)) (at5 (0 : Nat) nx) = (0 : Int) ∧ True) ∧ (((nx != nx) == false) = true → ((!(Rg.r0 g == Rg.r0 g && (Rg.r1 g == Rg.r1 g && (Rg.r2 g == Rg.r2 g && (Rg.r3 g == Rg.r3 g && (Rg.r4 g == Rg.r4 g && (Rg.r5 g == Rg.r5 g && (Rg.r6 g == Rg.r6 g && Rg.r7 g == Rg.r7 g)))))))) = true → false = true) ∧ ((!(Rg.r0 g == Rg.r0 g && (Rg.r1 g == Rg.r1 g && (Rg.r2 g == Rg.r2 g && (Rg.r3 g == Rg.r3 g && (Rg.r4 g == Rg.r4 g && (Rg.r5 g == Rg.r5 g && (Rg.r6 g == Rg.r6 g && Rg.r7 g == Rg.r7 g)))))))) = false → (((0 : Int) ≤ i ∧ i < (↑n : Int)) ∧ True) ∧ (IsInt IntKind.i64 rs (off + Int.toNat i * 3) ∧ IsInt IntKind.u64 rs (off + Int.toNat i * 3 + 1) ∧ IsInt IntKind.u32 rs (off + Int.toNat i * 3 + 2) ∧ True) ∧ ((0 : Nat) + k * 5 ≤ Array.size row ∧ (((0 : Nat) + k) * 6 ≤ (140737488355328 : Nat) ∧ (0 : Nat) + k ≤ (140737488355328 : Nat)) ∧ True) ∧ (((0 : Int) ≤ nx ∧ nx < (↑((0 : Nat) + k) : Int)) ∧ InsAt (Array.extract row (0 : Nat) ((0 : Nat) + k * 5)) (at5 (0 : Nat) nx) ∧ in8 (Array.extract row (0 : Nat) ((0 : Nat) + k * 5)) (at5 (0 : Nat) nx) ∧ intAt (Array.extract row (0 : Nat) ((0 : Nat) + k * 5)) (at5 (0 : Nat) nx) = (0 : Int) ∧ True) ∧ (((0 : Int) ≤ nx ∧ nx < (↑((0 : Nat) + k) : Int)) ∧ InsAt (Array.extract row (0 : Nat) ((0 : Nat) + k * 5)) (at5 (0 : Nat) nx) ∧ in8 (Array.extract row (0 : Nat) ((0 : Nat) + k * 5)) (at5 (0 : Nat) nx) ∧ intAt (Array.extract row (0 : Nat) ((0 : Nat) + k * 5)) (at5 (0 : Nat) nx) = (0 : Int) ∧ True) ∧ (decide (intAt (Array.extract row (0 : Nat) ((0 : Nat) + k * 5)) (at5 (0 : Nat) nx + 1) < (8 : Int)) = true → (((0 : Int) ≤ intAt (Array.extract row (0 : Nat) ((0 : Nat) + k * 5)) (at5 (0 : Nat) nx + 1) ∧ intAt (Array.extract row (0 : Nat) ((0 : Nat) + k * 5)) (at5 (0 : Nat) nx + 1) < (8 : Int)) ∧ True) ∧ (((2 : Nat) ≤ (2 : Nat) + Int.toNat (intAt (Array.extract row (0 : Nat) ((0 : Nat) + k * 5)) (at5 (0 : Nat) nx + 1)) * 1 ∧ (2 : Nat) + Int.toNat (intAt (Array.extract row (0 : Nat) ((0 : Nat) + k * 5)) (at5 (0 : Nat) nx + 1)) * 1 < (10 : Nat)) ∧ True) ∧ Q (0 : Int) (ari BinOp.add IntKind.i64 nx (1 : Int)) (Rg.mk (selI ((2 : Nat) + Int.toNat (intAt (Array.extract row (0 : Nat) ((0 : Nat) + k * 5)) (at5 (0 : Nat) nx + 1)) * 1) (2 : Nat) (intAt rs (off + Int.toNat i * 3 + 1)) (Rg.r0 g)) (selI ((2 : Nat) + Int.toNat (intAt (Array.extract row (0 : Nat) ((0 : Nat) + k * 5)) (at5 (0 : Nat) nx + 1)) * 1) (3 : Nat) (intAt rs (off + Int.toNat i * 3 + 1)) (Rg.r1 g)) (selI ((2 : Nat) + Int.toNat (intAt (Array.extract row (0 : Nat) ((0 : Nat) + k * 5)) (at5 (0 : Nat) nx + 1)) * 1) (4 : Nat) (intAt rs (off + Int.toNat i * 3 + 1)) (Rg.r2 g)) (selI ((2 : Nat) + Int.toNat (intAt (Array.extract row (0 : Nat) ((0 : Nat) + k * 5)) (at5 (0 : Nat) nx + 1)) * 1) (5 : Nat) (intAt rs (off + Int.toNat i * 3 + 1)) (Rg.r3 g)) (IntKind.wrap IntKind.u64 (intAt rs (off + Int.toNat i * 3 + 2))) (selI ((2 : Nat) + Int.toNat (intAt (Array.extract row (0 : Nat) ((0 : Nat) + k * 5)) (at5 (0 : Nat) nx + 1)) * 1) (7 : Nat) (intAt rs (off + Int.toNat i * 3 + 1)) (Rg.r5 g)) (selI ((2 : Nat) + Int.toNat (intAt (Array.extract row (0 : Nat) ((0 : Nat) + k * 5)) (at5 (0 : Nat) nx + 1)) * 1) (8 : Nat) (intAt rs (off + Int.toNat i * 3 + 1)) (Rg.r6 g)) (IntKind.wrap IntKind.u64 (intAt rs (off + Int.toNat i * 3)))) (Array.extract row (0 : Nat) ((0 : Nat) + k * 5)) ∧ CallKind.normal = CallKind.normal ∧ TodoOk (ren 1 [(1, 1), (2, 2), (3, 9), (4, 14)]) iTd iTd ∧ off = off ∧ n = n ∧ (↑k : Int) = (↑k : Int) ∧ i = i ∧ (0 : Int) = (0 : Int) ∧ true = true ∧ ty = ty ∧ rs = rs ∧ (28 : TypeId) = (28 : TypeId) ∧ k = k ∧ nx = nx ∧ Rg.r0 g = Rg.r0 g ∧ Rg.r1 g = Rg.r1 g ∧ Rg.r2 g = Rg.r2 g ∧ Rg.r3 g = Rg.r3 g ∧ Rg.r4 g = Rg.r4 g ∧ Rg.r5 g = Rg.r5 g ∧ Rg.r6 g = Rg.r6 g ∧ Rg.r7 g = Rg.r7 g ∧ (28 : TypeId) = (28 : Nat) ∧ k = (0 : Nat) + k ∧ ari BinOp.add IntKind.i64 nx (1 : Int) = ari BinOp.add IntKind.i64 nx (1 : Int) ∧ selI ((2 : Nat) + Int.toNat (intAt (Array.extract row (0 : Nat) ((0 : Nat) + k * 5)) (at5 (0 : Nat) nx + 1)) * 1) (2 : Nat) (intAt rs (off + Int.toNat i * 3 + 1)) (Rg.r0 g) = selI ((2 : Nat) + Int.toNat (intAt (Array.extract row (0 : Nat) ((0 : Nat) + k * 5)) (at5 (0 : Nat) nx + 1)) * 1) (2 : Nat) (intAt rs (off + Int.toNat i * 3 + 1)) (Rg.r0 g) ∧ selI ((2 : Nat) + Int.toNat (intAt (Array.extract row (0 : Nat) ((0 : Nat) + k * 5)) (at5 (0 : Nat) nx + 1)) * 1) (3 : Nat) (intAt rs (off + Int.toNat i * 3 + 1)) (Rg.r1 g) = selI ((2 : Nat) + Int.toNat (intAt (Array.extract row (0 : Nat) ((0 : Nat) + k * 5)) (at5 (0 : Nat) nx + 1)) * 1) (3 : Nat) (intAt rs (off + Int.toNat i * 3 + 1)) (Rg.r1 g) ∧ selI ((2 : Nat) + Int.toNat (intAt (Array.extract row (0 : Nat) ((0 : Nat) + k * 5)) (at5 (0 : Nat) nx + 1)) * 1) (4 : Nat) (intAt rs (off + Int.toNat i * 3 + 1)) (Rg.r2 g) = selI ((2 : Nat) + Int.toNat (intAt (Array.extract row (0 : Nat) ((0 : Nat) + k * 5)) (at5 (0 : Nat) nx + 1)) * 1) (4 : Nat) (intAt rs (off + Int.toNat i * 3 + 1)) (Rg.r2 g) ∧ selI ((2 : Nat) + Int.toNat (intAt (Array.extract row (0 : Nat) ((0 : Nat) + k * 5)) (at5 (0 : Nat) nx + 1)) * 1) (5 : Nat) (intAt rs (off + Int.toNat i * 3 + 1)) (Rg.r3 g) = selI ((2 : Nat) + Int.toNat (intAt (Array.extract row (0 : Nat) ((0 : Nat) + k * 5)) (at5 (0 : Nat) nx + 1)) * 1) (5 : Nat) (intAt rs (off + Int.toNat i * 3 + 1)) (Rg.r3 g) ∧ IntKind.wrap IntKind.u64 (intAt rs (off + Int.toNat i * 3 + 2)) = IntKind.wrap IntKind.u64 (intAt rs (off + Int.toNat i * 3 + 2)) ∧ selI ((2 : Nat) + Int.toNat (intAt (Array.extract row (0 : Nat) ((0 : Nat) + k * 5)) (at5 (0 : Nat) nx + 1)) * 1) (7 : Nat) (intAt rs (off + Int.toNat i * 3 + 1)) (Rg.r5 g) = selI ((2 : Nat) + Int.toNat (intAt (Array.extract row (0 : Nat) ((0 : Nat) + k * 5)) (at5 (0 : Nat) nx + 1)) * 1) (7 : Nat) (intAt rs (off + Int.toNat i * 3 + 1)) (Rg.r5 g) ∧ selI ((2 : Nat) + Int.toNat (intAt (Array.extract row (0 : Nat) ((0 : Nat) + k * 5)) (at5 (0 : Nat) nx + 1)) * 1) (8 : Nat) (intAt rs (off + Int.toNat i * 3 + 1)) (Rg.r6 g) = selI ((2 : Nat) + Int.toNat (intAt (Array.extract row (0 : Nat) ((0 : Nat) + k * 5)) (at5 (0 : Nat) nx + 1)) * 1) (8 : Nat) (intAt rs (off + Int.toNat i * 3 + 1)) (Rg.r6 g) ∧ IntKind.wrap IntKind.u64 (intAt rs (off + Int.toNat i * 3)) = IntKind.wrap IntKind.u64 (intAt rs (off + Int.toNat i * 3)) ∧ (62 : TypeId) = (62 : TypeId) ∧ row = row ∧ (62 : TypeId) = (62 : Nat) ∧ Array.extract row (0 : Nat) ((0 : Nat) + k * 5) = Array.extract row (0 : Nat) ((0 : Nat) + k * 5) ∧ True) ∧ (decide (intAt (Array.extract row (0 : Nat) ((0 : Nat) + k * 5)) (at5 (0 : Nat) nx + 1) < (8 : Int)) = false → Q (0 : Int) (ari BinOp.add IntKind.i64 nx (1 : Int)) (Rg.mk (Rg.r0 g) (Rg.r1 g) (Rg.r2 g) (Rg.r3 g) (IntKind.wrap IntKind.u64 (intAt rs (off + Int.toNat i * 3 + 2))) (Rg.r5 g) (Rg.r6 g) (IntKind.wrap IntKind.u64 (intAt rs (off + Int.toNat i * 3)))) (Array.extract row (0 : Nat) ((0 : Nat) + k * 5)) ∧ CallKind.normal = CallKind.normal ∧ TodoOk (ren 1 [(1, 1), (2, 2), (3, 9), (4, 14)]) iTd iTd ∧ off = off ∧ n = n ∧ (↑k : Int) = (↑k : Int) ∧ i = i ∧ (0 : Int) = (0 : Int) ∧ true = true ∧ ty = ty ∧ rs = rs ∧ (28 : TypeId) = (28 : TypeId) ∧ k = k ∧ nx = nx ∧ Rg.r0 g = Rg.r0 g ∧ Rg.r1 g = Rg.r1 g ∧ Rg.r2 g = Rg.r2 g ∧ Rg.r3 g = Rg.r3 g ∧ Rg.r4 g = Rg.r4 g ∧ Rg.r5 g = Rg.r5 g ∧ Rg.r6 g = Rg.r6 g ∧ Rg.r7 g = Rg.r7 g ∧ (28 : TypeId) = (28 : Nat) ∧ k = (0 : Nat) + k ∧ ari BinOp.add IntKind.i64 nx (1 : Int) = ari BinOp.add IntKind.i64 nx (1 : Int) ∧ Rg.r0 g = Rg.r0 g ∧ Rg.r1 g = Rg.r1 g ∧ Rg.r2 g = Rg.r2 g ∧ Rg.r3 g = Rg.r3 g ∧ IntKind.wrap IntKind.u64 (intAt rs (off + Int.toNat i * 3 + 2)) = IntKind.wrap IntKind.u64 (intAt rs (off + Int.toNat i * 3 + 2)) ∧ Rg.r5 g = Rg.r5 g ∧ Rg.r6 g = Rg.r6 g ∧ IntKind.wrap IntKind.u64 (intAt rs (off + Int.toNat i * 3)) = IntKind.wrap IntKind.u64 (intAt rs (off + Int.toNat i * 3)) ∧ (62 : TypeId) = (62 : TypeId) ∧ row = row ∧ (62 : TypeId) = (62 : Nat) ∧ Array.extract row (0 : Nat) ((0 : Nat) + k * 5) = Array.extract row (0 : Nat) ((0 : Nat) + k * 5) ∧ True))) ∧ (((nx != nx) == false) = false → false = true)) ∧ (decide (i < (↑n : Int)) = false → true = true)) := by kernel_rfl
theorem go_2 (off n : Nat) (rs : Array Value) (ty : TypeId) (k : Nat) (i nx : Int) (g : Rg) (row : Array Value) (Q : Int → Int → Rg → Array Value → Prop) : (oS true 2 off n rs ty k i nx g row).vc (boolR true) (iN false off n rs ty k 0 i nx g row true Q) =
    ((decide (i < (↑n : Int)) = true → (((0 : Int) ≤ nx ∧ nx < (↑k : Int)) ∧ InsAt row (at5 (0 : Nat) nx) ∧ in8 row (at5 (0 : Nat) nx) ∧ ((16 : Int) < intAt row (at5 (0 : Nat) nx) ∧ intAt row (at5 (0 : Nat) nx) ≤ (38 : Int)) ∧ True) ∧ ((0 : Nat) + k * 5 ≤ Array.size row ∧ (((0 : Nat) + k) * 6 ≤ (140737488355328 : Nat) ∧ (0 : Nat) + k ≤ (140737488355328 : Nat)) ∧ True) ∧ (((0 : Int) ≤ nx ∧ nx < (↑((0 : Nat) + k) : Int)) ∧ InsAt (Array.extract row (0 : Nat) ((0 : Nat) + k * 5)) (at5 (0 : Nat) nx) ∧ in8 (Array.extract row (0 : Nat) ((0 : Nat) + k * 5)) (at5 (0 : Nat) nx) ∧ ((16 : Int) < intAt (Array.extract row (0 : Nat) ((0 : Nat) + k * 5)) (at5 (0 : Nat) nx) ∧ intAt (Array.extract row (0 : Nat) ((0 : Nat) + k * 5)) (at5 (0 : Nat) nx) ≤ (38 : Int)) ∧ True) ∧ (((nx != nx) == false) = true → ((!(Rg.r0 g == Rg.r0 g && (Rg.r1 g == Rg.r1 g && (Rg.r2 g == Rg.r2 g && (Rg.r3 g == Rg.r3 g && (Rg.r4 g == Rg.r4 g && (Rg.r5 g == Rg.r5 g && (Rg.r6 g == Rg.r6 g && Rg.r7 g == Rg.r7 g)))))))) = true → false = true) ∧ ((!(Rg.r0 g == Rg.r0 g && (Rg.r1 g == Rg.r1 g && (Rg.r2 g == Rg.r2 g && (Rg.r3 g == Rg.r3 g && (Rg.r4 g == Rg.r4 g && (Rg.r5 g == Rg.r5 g && (Rg.r6 g == Rg.r6 g && Rg.r7 g == Rg.r7 g)))))))) = false → (((0 : Int) ≤ i ∧ i < (↑n : Int)) ∧ True) ∧ (IsInt IntKind.i64 rs (off + Int.toNat i * 3) ∧ IsInt IntKind.u64 rs (off + Int.toNat i * 3 + 1) ∧ IsInt IntKind.u32 rs (off + Int.toNat i * 3 + 2) ∧ True) ∧ ((0 : Nat) + k * 5 ≤ Array.size row ∧ (((0 : Nat) + k) * 6 ≤ (140737488355328 : Nat) ∧ (0 : Nat) + k ≤ (140737488355328 : Nat)) ∧ True) ∧ (((0 : Int) ≤ nx ∧ nx < (↑((0 : Nat) + k) : Int)) ∧ InsAt (Array.extract row (0 : Nat) ((0 : Nat) + k * 5)) (at5 (0 : Nat) nx) ∧ in8 (Array.extract row (0 : Nat) ((0 : Nat) + k * 5)) (at5 (0 : Nat) nx) ∧ ((16 : Int) < intAt (Array.extract row (0 : Nat) ((0 : Nat) + k * 5)) (at5 (0 : Nat) nx) ∧ intAt (Array.extract row (0 : Nat) ((0 : Nat) + k * 5)) (at5 (0 : Nat) nx) ≤ (38 : Int)) ∧ True) ∧ (((0 : Int) ≤ nx ∧ nx < (↑((0 : Nat) + k) : Int)) ∧ InsAt (Array.extract row (0 : Nat) ((0 : Nat) + k * 5)) (at5 (0 : Nat) nx) ∧ in8 (Array.extract row (0 : Nat) ((0 : Nat) + k * 5)) (at5 (0 : Nat) nx) ∧ ((16 : Int) < intAt (Array.extract row (0 : Nat) ((0 : Nat) + k * 5)) (at5 (0 : Nat) nx) ∧ intAt (Array.extract row (0 : Nat) ((0 : Nat) + k * 5)) (at5 (0 : Nat) nx) ≤ (38 : Int)) ∧ True) ∧ (decide (intAt (Array.extract row (0 : Nat) ((0 : Nat) + k * 5)) (at5 (0 : Nat) nx + 1) < (8 : Int)) = true → (((0 : Int) ≤ intAt (Array.extract row (0 : Nat) ((0 : Nat) + k * 5)) (at5 (0 : Nat) nx + 1) ∧ intAt (Array.extract row (0 : Nat) ((0 : Nat) + k * 5)) (at5 (0 : Nat) nx + 1) < (8 : Int)) ∧ True) ∧ (((2 : Nat) ≤ (2 : Nat) + Int.toNat (intAt (Array.extract row (0 : Nat) ((0 : Nat) + k * 5)) (at5 (0 : Nat) nx + 1)) * 1 ∧ (2 : Nat) + Int.toNat (intAt (Array.extract row (0 : Nat) ((0 : Nat) + k * 5)) (at5 (0 : Nat) nx + 1)) * 1 < (10 : Nat)) ∧ True) ∧ Q (0 : Int) (ari BinOp.add IntKind.i64 nx (1 : Int)) (Rg.mk (selI ((2 : Nat) + Int.toNat (intAt (Array.extract row (0 : Nat) ((0 : Nat) + k * 5)) (at5 (0 : Nat) nx + 1)) * 1) (2 : Nat) (intAt rs (off + Int.toNat i * 3 + 1)) (Rg.r0 g)) (selI ((2 : Nat) + Int.toNat (intAt (Array.extract row (0 : Nat) ((0 : Nat) + k * 5)) (at5 (0 : Nat) nx + 1)) * 1) (3 : Nat) (intAt rs (off + Int.toNat i * 3 + 1)) (Rg.r1 g)) (selI ((2 : Nat) + Int.toNat (intAt (Array.extract row (0 : Nat) ((0 : Nat) + k * 5)) (at5 (0 : Nat) nx + 1)) * 1) (4 : Nat) (intAt rs (off + Int.toNat i * 3 + 1)) (Rg.r2 g)) (selI ((2 : Nat) + Int.toNat (intAt (Array.extract row (0 : Nat) ((0 : Nat) + k * 5)) (at5 (0 : Nat) nx + 1)) * 1) (5 : Nat) (intAt rs (off + Int.toNat i * 3 + 1)) (Rg.r3 g)) (IntKind.wrap IntKind.u64 (intAt rs (off + Int.toNat i * 3 + 2))) (selI ((2 : Nat) + Int.toNat (intAt (Array.extract row (0 : Nat) ((0 : Nat) + k * 5)) (at5 (0 : Nat) nx + 1)) * 1) (7 : Nat) (intAt rs (off + Int.toNat i * 3 + 1)) (Rg.r5 g)) (selI ((2 : Nat) + Int.toNat (intAt (Array.extract row (0 : Nat) ((0 : Nat) + k * 5)) (at5 (0 : Nat) nx + 1)) * 1) (8 : Nat) (intAt rs (off + Int.toNat i * 3 + 1)) (Rg.r6 g)) (IntKind.wrap IntKind.u64 (intAt rs (off + Int.toNat i * 3)))) (Array.extract row (0 : Nat) ((0 : Nat) + k * 5)) ∧ CallKind.normal = CallKind.normal ∧ TodoOk (ren 1 [(1, 1), (2, 2), (3, 9), (4, 14)]) iTd iTd ∧ off = off ∧ n = n ∧ (↑k : Int) = (↑k : Int) ∧ i = i ∧ (0 : Int) = (0 : Int) ∧ true = true ∧ ty = ty ∧ rs = rs ∧ (28 : TypeId) = (28 : TypeId) ∧ k = k ∧ nx = nx ∧ Rg.r0 g = Rg.r0 g ∧ Rg.r1 g = Rg.r1 g ∧ Rg.r2 g = Rg.r2 g ∧ Rg.r3 g = Rg.r3 g ∧ Rg.r4 g = Rg.r4 g ∧ Rg.r5 g = Rg.r5 g ∧ Rg.r6 g = Rg.r6 g ∧ Rg.r7 g = Rg.r7 g ∧ (28 : TypeId) = (28 : Nat) ∧ k = (0 : Nat) + k ∧ ari BinOp.add IntKind.i64 nx (1 : Int) = ari BinOp.add IntKind.i64 nx (1 : Int) ∧ selI ((2 : Nat) + Int.toNat (intAt (Array.extract row (0 : Nat) ((0 : Nat) + k * 5)) (at5 (0 : Nat) nx + 1)) * 1) (2 : Nat) (intAt rs (off + Int.toNat i * 3 + 1)) (Rg.r0 g) = selI ((2 : Nat) + Int.toNat (intAt (Array.extract row (0 : Nat) ((0 : Nat) + k * 5)) (at5 (0 : Nat) nx + 1)) * 1) (2 : Nat) (intAt rs (off + Int.toNat i * 3 + 1)) (Rg.r0 g) ∧ selI ((2 : Nat) + Int.toNat (intAt (Array.extract row (0 : Nat) ((0 : Nat) + k * 5)) (at5 (0 : Nat) nx + 1)) * 1) (3 : Nat) (intAt rs (off + Int.toNat i * 3 + 1)) (Rg.r1 g) = selI ((2 : Nat) + Int.toNat (intAt (Array.extract row (0 : Nat) ((0 : Nat) + k * 5)) (at5 (0 : Nat) nx + 1)) * 1) (3 : Nat) (intAt rs (off + Int.toNat i * 3 + 1)) (Rg.r1 g) ∧ selI ((2 : Nat) + Int.toNat (intAt (Array.extract row (0 : Nat) ((0 : Nat) + k * 5)) (at5 (0 : Nat) nx + 1)) * 1) (4 : Nat) (intAt rs (off + Int.toNat i * 3 + 1)) (Rg.r2 g) = selI ((2 : Nat) + Int.toNat (intAt (Array.extract row (0 : Nat) ((0 : Nat) + k * 5)) (at5 (0 : Nat) nx + 1)) * 1) (4 : Nat) (intAt rs (off + Int.toNat i * 3 + 1)) (Rg.r2 g) ∧ selI ((2 : Nat) + Int.toNat (intAt (Array.extract row (0 : Nat) ((0 : Nat) + k * 5)) (at5 (0 : Nat) nx + 1)) * 1) (5 : Nat) (intAt rs (off + Int.toNat i * 3 + 1)) (Rg.r3 g) = selI ((2 : Nat) + Int.toNat (intAt (Array.extract row (0 : Nat) ((0 : Nat) + k * 5)) (at5 (0 : Nat) nx + 1)) * 1) (5 : Nat) (intAt rs (off + Int.toNat i * 3 + 1)) (Rg.r3 g) ∧ IntKind.wrap IntKind.u64 (intAt rs (off + Int.toNat i * 3 + 2)) = IntKind.wrap IntKind.u64 (intAt rs (off + Int.toNat i * 3 + 2)) ∧ selI ((2 : Nat) + Int.toNat (intAt (Array.extract row (0 : Nat) ((0 : Nat) + k * 5)) (at5 (0 : Nat) nx + 1)) * 1) (7 : Nat) (intAt rs (off + Int.toNat i * 3 + 1)) (Rg.r5 g) = selI ((2 : Nat) + Int.toNat (intAt (Array.extract row (0 : Nat) ((0 : Nat) + k * 5)) (at5 (0 : Nat) nx + 1)) * 1) (7 : Nat) (intAt rs (off + Int.toNat i * 3 + 1)) (Rg.r5 g) ∧ selI ((2 : Nat) + Int.toNat (intAt (Array.extract row (0 : Nat) ((0 : Nat) + k * 5)) (at5 (0 : Nat) nx + 1)) * 1) (8 : Nat) (intAt rs (off + Int.toNat i * 3 + 1)) (Rg.r6 g) = selI ((2 : Nat) + Int.toNat (intAt (Array.extract row (0 : Nat) ((0 : Nat) + k * 5)) (at5 (0 : Nat) nx + 1)) * 1) (8 : Nat) (intAt rs (off + Int.toNat i * 3 + 1)) (Rg.r6 g) ∧ IntKind.wrap IntKind.u64 (intAt rs (off + Int.toNat i * 3)) = IntKind.wrap IntKind.u64 (intAt rs (off + Int.toNat i * 3)) ∧ (62 : TypeId) = (62 : TypeId) ∧ row = row ∧ (62 : TypeId) = (62 : Nat) ∧ Array.extract row (0 : Nat) ((0 : Nat) + k * 5) = Array.extract row (0 : Nat) ((0 : Nat) + k * 5) ∧ True) ∧ (decide (intAt (Array.extract row (0 : Nat) ((0 : Nat) + k * 5)) (at5 (0 : Nat) nx + 1) < (8 : Int)) = false → Q (0 : Int) (ari BinOp.add IntKind.i64 nx (1 : Int)) (Rg.mk (Rg.r0 g) (Rg.r1 g) (Rg.r2 g) (Rg.r3 g) (IntKind.wrap IntKind.u64 (intAt rs (off + Int.toNat i * 3 + 2))) (Rg.r5 g) (Rg.r6 g) (IntKind.wrap IntKind.u64 (intAt rs (off + Int.toNat i * 3)))) (Array.extract row (0 : Nat) ((0 : Nat) + k * 5)) ∧ CallKind.normal = CallKind.normal ∧ TodoOk (ren 1 [(1, 1), (2, 2), (3, 9), (4, 14)]) iTd iTd ∧ off = off ∧ n = n ∧ (↑k : Int) = (↑k : Int) ∧ i = i ∧ (0 : Int) = (0 : Int) ∧ true = true ∧ ty = ty ∧ rs = rs ∧ (28 : TypeId) = (28 : TypeId) ∧ k = k ∧ nx = nx ∧ Rg.r0 g = Rg.r0 g ∧ Rg.r1 g = Rg.r1 g ∧ Rg.r2 g = Rg.r2 g ∧ Rg.r3 g = Rg.r3 g ∧ Rg.r4 g = Rg.r4 g ∧ Rg.r5 g = Rg.r5 g ∧ Rg.r6 g = Rg.r6 g ∧ Rg.r7 g = Rg.r7 g ∧ (28 : TypeId) = (28 : Nat) ∧ k = (0 : Nat) + k ∧ ari BinOp.add IntKind.i64 nx (1 : Int) = ari BinOp.add IntKind.i64 nx (1 : Int) ∧ Rg.r0 g = Rg.r0 g ∧ Rg.r1 g = Rg.r1 g ∧ Rg.r2 g = Rg.r2 g ∧ Rg.r3 g = Rg.r3 g ∧ IntKind.wrap IntKind.u64 (intAt rs (off + Int.toNat i * 3 + 2)) = IntKind.wrap IntKind.u64 (intAt rs (off + Int.toNat i * 3 + 2)) ∧ Rg.r5 g = Rg.r5 g ∧ Rg.r6 g = Rg.r6 g ∧ IntKind.wrap IntKind.u64 (intAt rs (off + Int.toNat i * 3)) = IntKind.wrap IntKind.u64 (intAt rs (off + Int.toNat i * 3)) ∧ (62 : TypeId) = (62 : TypeId) ∧ row = row ∧ (62 : TypeId) = (62 : Nat) ∧ Array.extract row (0 : Nat) ((0 : Nat) + k * 5) = Array.extract row (0 : Nat) ((0 : Nat) + k * 5) ∧ True))) ∧ (((nx != nx) == false) = false → false = true)) ∧ (decide (i < (↑n : Int)) = false → true = true)) := by kernel_rfl
theorem go_3 (off n : Nat) (rs : Array Value) (ty : TypeId) (k : Nat) (i nx : Int) (g : Rg) (row : Array Value) (Q : Int → Int → Rg → Array Value → Prop) : (oS true 3 off n rs ty k i nx g row).vc (boolR true) (iN false off n rs ty k 0 i nx g row false Q) =
    ((decide (i < (↑n : Int)) = true → (((0 : Int) ≤ nx ∧ nx < (↑k : Int)) ∧ InsAt row (at5 (0 : Nat) nx) ∧ in8 row (at5 (0 : Nat) nx) ∧ (intAt row (at5 (0 : Nat) nx) = (1 : Int) ∧ (0 : Int) < intAt row (at5 (0 : Nat) nx) ∧ intAt row (at5 (0 : Nat) nx) ≤ (6 : Int)) ∧ True) ∧ ((0 : Nat) + k * 5 ≤ Array.size row ∧ (((0 : Nat) + k) * 6 ≤ (140737488355328 : Nat) ∧ (0 : Nat) + k ≤ (140737488355328 : Nat)) ∧ True) ∧ (((0 : Int) ≤ nx ∧ nx < (↑((0 : Nat) + k) : Int)) ∧ InsAt (Array.extract row (0 : Nat) ((0 : Nat) + k * 5)) (at5 (0 : Nat) nx) ∧ in8 (Array.extract row (0 : Nat) ((0 : Nat) + k * 5)) (at5 (0 : Nat) nx) ∧ (intAt (Array.extract row (0 : Nat) ((0 : Nat) + k * 5)) (at5 (0 : Nat) nx) = (1 : Int) ∧ (0 : Int) < intAt (Array.extract row (0 : Nat) ((0 : Nat) + k * 5)) (at5 (0 : Nat) nx) ∧ intAt (Array.extract row (0 : Nat) ((0 : Nat) + k * 5)) (at5 (0 : Nat) nx) ≤ (6 : Int)) ∧ True) ∧ (((0 : Int) ≤ nx ∧ nx < (↑((0 : Nat) + k) : Int)) ∧ InsAt (Array.extract row (0 : Nat) ((0 : Nat) + k * 5)) (at5 (0 : Nat) nx) ∧ in8 (Array.extract row (0 : Nat) ((0 : Nat) + k * 5)) (at5 (0 : Nat) nx) ∧ (intAt (Array.extract row (0 : Nat) ((0 : Nat) + k * 5)) (at5 (0 : Nat) nx) = (1 : Int) ∧ (0 : Int) < intAt (Array.extract row (0 : Nat) ((0 : Nat) + k * 5)) (at5 (0 : Nat) nx) ∧ intAt (Array.extract row (0 : Nat) ((0 : Nat) + k * 5)) (at5 (0 : Nat) nx) ≤ (6 : Int)) ∧ True) ∧ (decide (intAt (Array.extract row (0 : Nat) ((0 : Nat) + k * 5)) (at5 (0 : Nat) nx + 1) < (8 : Int)) = true → (((0 : Int) ≤ intAt (Array.extract row (0 : Nat) ((0 : Nat) + k * 5)) (at5 (0 : Nat) nx + 1) ∧ intAt (Array.extract row (0 : Nat) ((0 : Nat) + k * 5)) (at5 (0 : Nat) nx + 1) < (8 : Int)) ∧ True) ∧ (((2 : Nat) ≤ (2 : Nat) + Int.toNat (intAt (Array.extract row (0 : Nat) ((0 : Nat) + k * 5)) (at5 (0 : Nat) nx + 1)) * 1 ∧ (2 : Nat) + Int.toNat (intAt (Array.extract row (0 : Nat) ((0 : Nat) + k * 5)) (at5 (0 : Nat) nx + 1)) * 1 < (10 : Nat)) ∧ True) ∧ Q (0 : Int) (ari BinOp.add IntKind.i64 nx (1 : Int)) (Rg.mk (selI ((2 : Nat) + Int.toNat (intAt (Array.extract row (0 : Nat) ((0 : Nat) + k * 5)) (at5 (0 : Nat) nx + 1)) * 1) (2 : Nat) (IntKind.wrap IntKind.u64 (intAt (Array.extract row (0 : Nat) ((0 : Nat) + k * 5)) (at5 (0 : Nat) nx + 4))) (Rg.r0 g)) (selI ((2 : Nat) + Int.toNat (intAt (Array.extract row (0 : Nat) ((0 : Nat) + k * 5)) (at5 (0 : Nat) nx + 1)) * 1) (3 : Nat) (IntKind.wrap IntKind.u64 (intAt (Array.extract row (0 : Nat) ((0 : Nat) + k * 5)) (at5 (0 : Nat) nx + 4))) (Rg.r1 g)) (selI ((2 : Nat) + Int.toNat (intAt (Array.extract row (0 : Nat) ((0 : Nat) + k * 5)) (at5 (0 : Nat) nx + 1)) * 1) (4 : Nat) (IntKind.wrap IntKind.u64 (intAt (Array.extract row (0 : Nat) ((0 : Nat) + k * 5)) (at5 (0 : Nat) nx + 4))) (Rg.r2 g)) (selI ((2 : Nat) + Int.toNat (intAt (Array.extract row (0 : Nat) ((0 : Nat) + k * 5)) (at5 (0 : Nat) nx + 1)) * 1) (5 : Nat) (IntKind.wrap IntKind.u64 (intAt (Array.extract row (0 : Nat) ((0 : Nat) + k * 5)) (at5 (0 : Nat) nx + 4))) (Rg.r3 g)) (selI ((2 : Nat) + Int.toNat (intAt (Array.extract row (0 : Nat) ((0 : Nat) + k * 5)) (at5 (0 : Nat) nx + 1)) * 1) (6 : Nat) (IntKind.wrap IntKind.u64 (intAt (Array.extract row (0 : Nat) ((0 : Nat) + k * 5)) (at5 (0 : Nat) nx + 4))) (Rg.r4 g)) (selI ((2 : Nat) + Int.toNat (intAt (Array.extract row (0 : Nat) ((0 : Nat) + k * 5)) (at5 (0 : Nat) nx + 1)) * 1) (7 : Nat) (IntKind.wrap IntKind.u64 (intAt (Array.extract row (0 : Nat) ((0 : Nat) + k * 5)) (at5 (0 : Nat) nx + 4))) (Rg.r5 g)) (selI ((2 : Nat) + Int.toNat (intAt (Array.extract row (0 : Nat) ((0 : Nat) + k * 5)) (at5 (0 : Nat) nx + 1)) * 1) (8 : Nat) (IntKind.wrap IntKind.u64 (intAt (Array.extract row (0 : Nat) ((0 : Nat) + k * 5)) (at5 (0 : Nat) nx + 4))) (Rg.r6 g)) (selI ((2 : Nat) + Int.toNat (intAt (Array.extract row (0 : Nat) ((0 : Nat) + k * 5)) (at5 (0 : Nat) nx + 1)) * 1) (9 : Nat) (IntKind.wrap IntKind.u64 (intAt (Array.extract row (0 : Nat) ((0 : Nat) + k * 5)) (at5 (0 : Nat) nx + 4))) (Rg.r7 g))) (Array.extract row (0 : Nat) ((0 : Nat) + k * 5)) ∧ CallKind.normal = CallKind.normal ∧ TodoOk (ren 1 [(1, 1), (2, 2), (3, 11), (4, 7)]) iTd iTd ∧ off = off ∧ n = n ∧ (↑k : Int) = (↑k : Int) ∧ i = i ∧ (0 : Int) = (0 : Int) ∧ false = false ∧ ty = ty ∧ rs = rs ∧ (28 : TypeId) = (28 : TypeId) ∧ k = k ∧ nx = nx ∧ Rg.r0 g = Rg.r0 g ∧ Rg.r1 g = Rg.r1 g ∧ Rg.r2 g = Rg.r2 g ∧ Rg.r3 g = Rg.r3 g ∧ Rg.r4 g = Rg.r4 g ∧ Rg.r5 g = Rg.r5 g ∧ Rg.r6 g = Rg.r6 g ∧ Rg.r7 g = Rg.r7 g ∧ (28 : TypeId) = (28 : Nat) ∧ k = (0 : Nat) + k ∧ ari BinOp.add IntKind.i64 nx (1 : Int) = ari BinOp.add IntKind.i64 nx (1 : Int) ∧ selI ((2 : Nat) + Int.toNat (intAt (Array.extract row (0 : Nat) ((0 : Nat) + k * 5)) (at5 (0 : Nat) nx + 1)) * 1) (2 : Nat) (IntKind.wrap IntKind.u64 (intAt (Array.extract row (0 : Nat) ((0 : Nat) + k * 5)) (at5 (0 : Nat) nx + 4))) (Rg.r0 g) = selI ((2 : Nat) + Int.toNat (intAt (Array.extract row (0 : Nat) ((0 : Nat) + k * 5)) (at5 (0 : Nat) nx + 1)) * 1) (2 : Nat) (IntKind.wrap IntKind.u64 (intAt (Array.extract row (0 : Nat) ((0 : Nat) + k * 5)) (at5 (0 : Nat) nx + 4))) (Rg.r0 g) ∧ selI ((2 : Nat) + Int.toNat (intAt (Array.extract row (0 : Nat) ((0 : Nat) + k * 5)) (at5 (0 : Nat) nx + 1)) * 1) (3 : Nat) (IntKind.wrap IntKind.u64 (intAt (Array.extract row (0 : Nat) ((0 : Nat) + k * 5)) (at5 (0 : Nat) nx + 4))) (Rg.r1 g) = selI ((2 : Nat) + Int.toNat (intAt (Array.extract row (0 : Nat) ((0 : Nat) + k * 5)) (at5 (0 : Nat) nx + 1)) * 1) (3 : Nat) (IntKind.wrap IntKind.u64 (intAt (Array.extract row (0 : Nat) ((0 : Nat) + k * 5)) (at5 (0 : Nat) nx + 4))) (Rg.r1 g) ∧ selI ((2 : Nat) + Int.toNat (intAt (Array.extract row (0 : Nat) ((0 : Nat) + k * 5)) (at5 (0 : Nat) nx + 1)) * 1) (4 : Nat) (IntKind.wrap IntKind.u64 (intAt (Array.extract row (0 : Nat) ((0 : Nat) + k * 5)) (at5 (0 : Nat) nx + 4))) (Rg.r2 g) = selI ((2 : Nat) + Int.toNat (intAt (Array.extract row (0 : Nat) ((0 : Nat) + k * 5)) (at5 (0 : Nat) nx + 1)) * 1) (4 : Nat) (IntKind.wrap IntKind.u64 (intAt (Array.extract row (0 : Nat) ((0 : Nat) + k * 5)) (at5 (0 : Nat) nx + 4))) (Rg.r2 g) ∧ selI ((2 : Nat) + Int.toNat (intAt (Array.extract row (0 : Nat) ((0 : Nat) + k * 5)) (at5 (0 : Nat) nx + 1)) * 1) (5 : Nat) (IntKind.wrap IntKind.u64 (intAt (Array.extract row (0 : Nat) ((0 : Nat) + k * 5)) (at5 (0 : Nat) nx + 4))) (Rg.r3 g) = selI ((2 : Nat) + Int.toNat (intAt (Array.extract row (0 : Nat) ((0 : Nat) + k * 5)) (at5 (0 : Nat) nx + 1)) * 1) (5 : Nat) (IntKind.wrap IntKind.u64 (intAt (Array.extract row (0 : Nat) ((0 : Nat) + k * 5)) (at5 (0 : Nat) nx + 4))) (Rg.r3 g) ∧ selI ((2 : Nat) + Int.toNat (intAt (Array.extract row (0 : Nat) ((0 : Nat) + k * 5)) (at5 (0 : Nat) nx + 1)) * 1) (6 : Nat) (IntKind.wrap IntKind.u64 (intAt (Array.extract row (0 : Nat) ((0 : Nat) + k * 5)) (at5 (0 : Nat) nx + 4))) (Rg.r4 g) = selI ((2 : Nat) + Int.toNat (intAt (Array.extract row (0 : Nat) ((0 : Nat) + k * 5)) (at5 (0 : Nat) nx + 1)) * 1) (6 : Nat) (IntKind.wrap IntKind.u64 (intAt (Array.extract row (0 : Nat) ((0 : Nat) + k * 5)) (at5 (0 : Nat) nx + 4))) (Rg.r4 g) ∧ selI ((2 : Nat) + Int.toNat (intAt (Array.extract row (0 : Nat) ((0 : Nat) + k * 5)) (at5 (0 : Nat) nx + 1)) * 1) (7 : Nat) (IntKind.wrap IntKind.u64 (intAt (Array.extract row (0 : Nat) ((0 : Nat) + k * 5)) (at5 (0 : Nat) nx + 4))) (Rg.r5 g) = selI ((2 : Nat) + Int.toNat (intAt (Array.extract row (0 : Nat) ((0 : Nat) + k * 5)) (at5 (0 : Nat) nx + 1)) * 1) (7 : Nat) (IntKind.wrap IntKind.u64 (intAt (Array.extract row (0 : Nat) ((0 : Nat) + k * 5)) (at5 (0 : Nat) nx + 4))) (Rg.r5 g) ∧ selI ((2 : Nat) + Int.toNat (intAt (Array.extract row (0 : Nat) ((0 : Nat) + k * 5)) (at5 (0 : Nat) nx + 1)) * 1) (8 : Nat) (IntKind.wrap IntKind.u64 (intAt (Array.extract row (0 : Nat) ((0 : Nat) + k * 5)) (at5 (0 : Nat) nx + 4))) (Rg.r6 g) = selI ((2 : Nat) + Int.toNat (intAt (Array.extract row (0 : Nat) ((0 : Nat) + k * 5)) (at5 (0 : Nat) nx + 1)) * 1) (8 : Nat) (IntKind.wrap IntKind.u64 (intAt (Array.extract row (0 : Nat) ((0 : Nat) + k * 5)) (at5 (0 : Nat) nx + 4))) (Rg.r6 g) ∧ selI ((2 : Nat) + Int.toNat (intAt (Array.extract row (0 : Nat) ((0 : Nat) + k * 5)) (at5 (0 : Nat) nx + 1)) * 1) (9 : Nat) (IntKind.wrap IntKind.u64 (intAt (Array.extract row (0 : Nat) ((0 : Nat) + k * 5)) (at5 (0 : Nat) nx + 4))) (Rg.r7 g) = selI ((2 : Nat) + Int.toNat (intAt (Array.extract row (0 : Nat) ((0 : Nat) + k * 5)) (at5 (0 : Nat) nx + 1)) * 1) (9 : Nat) (IntKind.wrap IntKind.u64 (intAt (Array.extract row (0 : Nat) ((0 : Nat) + k * 5)) (at5 (0 : Nat) nx + 4))) (Rg.r7 g) ∧ (62 : TypeId) = (62 : TypeId) ∧ row = row ∧ (62 : TypeId) = (62 : Nat) ∧ Array.extract row (0 : Nat) ((0 : Nat) + k * 5) = Array.extract row (0 : Nat) ((0 : Nat) + k * 5) ∧ True) ∧ (decide (intAt (Array.extract row (0 : Nat) ((0 : Nat) + k * 5)) (at5 (0 : Nat) nx + 1) < (8 : Int)) = false → Q (0 : Int) (ari BinOp.add IntKind.i64 nx (1 : Int)) (Rg.mk (Rg.r0 g) (Rg.r1 g) (Rg.r2 g) (Rg.r3 g) (Rg.r4 g) (Rg.r5 g) (Rg.r6 g) (Rg.r7 g)) (Array.extract row (0 : Nat) ((0 : Nat) + k * 5)) ∧ CallKind.normal = CallKind.normal ∧ TodoOk (ren 1 [(1, 1), (2, 2), (3, 11), (4, 7)]) iTd iTd ∧ off = off ∧ n = n ∧ (↑k : Int) = (↑k : Int) ∧ i = i ∧ (0 : Int) = (0 : Int) ∧ false = false ∧ ty = ty ∧ rs = rs ∧ (28 : TypeId) = (28 : TypeId) ∧ k = k ∧ nx = nx ∧ Rg.r0 g = Rg.r0 g ∧ Rg.r1 g = Rg.r1 g ∧ Rg.r2 g = Rg.r2 g ∧ Rg.r3 g = Rg.r3 g ∧ Rg.r4 g = Rg.r4 g ∧ Rg.r5 g = Rg.r5 g ∧ Rg.r6 g = Rg.r6 g ∧ Rg.r7 g = Rg.r7 g ∧ (28 : TypeId) = (28 : Nat) ∧ k = (0 : Nat) + k ∧ ari BinOp.add IntKind.i64 nx (1 : Int) = ari BinOp.add IntKind.i64 nx (1 : Int) ∧ Rg.r0 g = Rg.r0 g ∧ Rg.r1 g = Rg.r1 g ∧ Rg.r2 g = Rg.r2 g ∧ Rg.r3 g = Rg.r3 g ∧ Rg.r4 g = Rg.r4 g ∧ Rg.r5 g = Rg.r5 g ∧ Rg.r6 g = Rg.r6 g ∧ Rg.r7 g = Rg.r7 g ∧ (62 : TypeId) = (62 : TypeId) ∧ row = row ∧ (62 : TypeId) = (62 : Nat) ∧ Array.extract row (0 : Nat) ((0 : Nat) + k * 5) = Array.extract row (0 : Nat) ((0 : Nat) + k * 5) ∧ True)) ∧ (decide (i < (↑n : Int)) = false → true = true)) := by kernel_rfl
theorem go_4 (off n : Nat) (rs : Array Value) (ty : TypeId) (k : Nat) (i nx : Int) (g : Rg) (row : Array Value) (Q : Int → Int → Rg → Array Value → Prop) : (oS true 4 off n rs ty k i nx g row).vc (boolR true) (iN false off n rs ty k 0 i nx g row false Q) =
    ((decide (i < (↑n : Int)) = true → (((0 : Int) ≤ nx ∧ nx < (↑k : Int)) ∧ InsAt row (at5 (0 : Nat) nx) ∧ in8 row (at5 (0 : Nat) nx) ∧ (intAt row (at5 (0 : Nat) nx) = (2 : Int) ∧ (0 : Int) < intAt row (at5 (0 : Nat) nx) ∧ intAt row (at5 (0 : Nat) nx) ≤ (6 : Int)) ∧ True) ∧ ((0 : Nat) + k * 5 ≤ Array.size row ∧ (((0 : Nat) + k) * 6 ≤ (140737488355328 : Nat) ∧ (0 : Nat) + k ≤ (140737488355328 : Nat)) ∧ True) ∧ (((0 : Int) ≤ nx ∧ nx < (↑((0 : Nat) + k) : Int)) ∧ InsAt (Array.extract row (0 : Nat) ((0 : Nat) + k * 5)) (at5 (0 : Nat) nx) ∧ in8 (Array.extract row (0 : Nat) ((0 : Nat) + k * 5)) (at5 (0 : Nat) nx) ∧ (intAt (Array.extract row (0 : Nat) ((0 : Nat) + k * 5)) (at5 (0 : Nat) nx) = (2 : Int) ∧ (0 : Int) < intAt (Array.extract row (0 : Nat) ((0 : Nat) + k * 5)) (at5 (0 : Nat) nx) ∧ intAt (Array.extract row (0 : Nat) ((0 : Nat) + k * 5)) (at5 (0 : Nat) nx) ≤ (6 : Int)) ∧ True) ∧ (((0 : Int) ≤ nx ∧ nx < (↑((0 : Nat) + k) : Int)) ∧ InsAt (Array.extract row (0 : Nat) ((0 : Nat) + k * 5)) (at5 (0 : Nat) nx) ∧ in8 (Array.extract row (0 : Nat) ((0 : Nat) + k * 5)) (at5 (0 : Nat) nx) ∧ (intAt (Array.extract row (0 : Nat) ((0 : Nat) + k * 5)) (at5 (0 : Nat) nx) = (2 : Int) ∧ (0 : Int) < intAt (Array.extract row (0 : Nat) ((0 : Nat) + k * 5)) (at5 (0 : Nat) nx) ∧ intAt (Array.extract row (0 : Nat) ((0 : Nat) + k * 5)) (at5 (0 : Nat) nx) ≤ (6 : Int)) ∧ True) ∧ (((0 : Int) ≤ intAt (Array.extract row (0 : Nat) ((0 : Nat) + k * 5)) (at5 (0 : Nat) nx + 2) ∧ intAt (Array.extract row (0 : Nat) ((0 : Nat) + k * 5)) (at5 (0 : Nat) nx + 2) < (8 : Int)) ∧ True) ∧ (((0 : Int) ≤ intAt (Array.extract row (0 : Nat) ((0 : Nat) + k * 5)) (at5 (0 : Nat) nx + 3) ∧ intAt (Array.extract row (0 : Nat) ((0 : Nat) + k * 5)) (at5 (0 : Nat) nx + 3) < (8 : Int)) ∧ True) ∧ (decide (intAt (Array.extract row (0 : Nat) ((0 : Nat) + k * 5)) (at5 (0 : Nat) nx + 1) < (8 : Int)) = true → (((0 : Int) ≤ intAt (Array.extract row (0 : Nat) ((0 : Nat) + k * 5)) (at5 (0 : Nat) nx + 1) ∧ intAt (Array.extract row (0 : Nat) ((0 : Nat) + k * 5)) (at5 (0 : Nat) nx + 1) < (8 : Int)) ∧ True) ∧ (((2 : Nat) ≤ (2 : Nat) + Int.toNat (intAt (Array.extract row (0 : Nat) ((0 : Nat) + k * 5)) (at5 (0 : Nat) nx + 1)) * 1 ∧ (2 : Nat) + Int.toNat (intAt (Array.extract row (0 : Nat) ((0 : Nat) + k * 5)) (at5 (0 : Nat) nx + 1)) * 1 < (10 : Nat)) ∧ True) ∧ Q (0 : Int) (ari BinOp.add IntKind.i64 nx (1 : Int)) (Rg.mk (selI ((2 : Nat) + Int.toNat (intAt (Array.extract row (0 : Nat) ((0 : Nat) + k * 5)) (at5 (0 : Nat) nx + 1)) * 1) (2 : Nat) (ari BinOp.add IntKind.u64 (Rg.at (Rg.mk (Rg.r0 g) (Rg.r1 g) (Rg.r2 g) (Rg.r3 g) (Rg.r4 g) (Rg.r5 g) (Rg.r6 g) (Rg.r7 g)) (Int.toNat (intAt (Array.extract row (0 : Nat) ((0 : Nat) + k * 5)) (at5 (0 : Nat) nx + 2)))) (Rg.at (Rg.mk (Rg.r0 g) (Rg.r1 g) (Rg.r2 g) (Rg.r3 g) (Rg.r4 g) (Rg.r5 g) (Rg.r6 g) (Rg.r7 g)) (Int.toNat (intAt (Array.extract row (0 : Nat) ((0 : Nat) + k * 5)) (at5 (0 : Nat) nx + 3))))) (Rg.r0 g)) (selI ((2 : Nat) + Int.toNat (intAt (Array.extract row (0 : Nat) ((0 : Nat) + k * 5)) (at5 (0 : Nat) nx + 1)) * 1) (3 : Nat) (ari BinOp.add IntKind.u64 (Rg.at (Rg.mk (Rg.r0 g) (Rg.r1 g) (Rg.r2 g) (Rg.r3 g) (Rg.r4 g) (Rg.r5 g) (Rg.r6 g) (Rg.r7 g)) (Int.toNat (intAt (Array.extract row (0 : Nat) ((0 : Nat) + k * 5)) (at5 (0 : Nat) nx + 2)))) (Rg.at (Rg.mk (Rg.r0 g) (Rg.r1 g) (Rg.r2 g) (Rg.r3 g) (Rg.r4 g) (Rg.r5 g) (Rg.r6 g) (Rg.r7 g)) (Int.toNat (intAt (Array.extract row (0 : Nat) ((0 : Nat) + k * 5)) (at5 (0 : Nat) nx + 3))))) (Rg.r1 g)) (selI ((2 : Nat) + Int.toNat (intAt (Array.extract row (0 : Nat) ((0 : Nat) + k * 5)) (at5 (0 : Nat) nx + 1)) * 1) (4 : Nat) (ari BinOp.add IntKind.u64 (Rg.at (Rg.mk (Rg.r0 g) (Rg.r1 g) (Rg.r2 g) (Rg.r3 g) (Rg.r4 g) (Rg.r5 g) (Rg.r6 g) (Rg.r7 g)) (Int.toNat (intAt (Array.extract row (0 : Nat) ((0 : Nat) + k * 5)) (at5 (0 : Nat) nx + 2)))) (Rg.at (Rg.mk (Rg.r0 g) (Rg.r1 g) (Rg.r2 g) (Rg.r3 g) (Rg.r4 g) (Rg.r5 g) (Rg.r6 g) (Rg.r7 g)) (Int.toNat (intAt (Array.extract row (0 : Nat) ((0 : Nat) + k * 5)) (at5 (0 : Nat) nx + 3))))) (Rg.r2 g)) (selI ((2 : Nat) + Int.toNat (intAt (Array.extract row (0 : Nat) ((0 : Nat) + k * 5)) (at5 (0 : Nat) nx + 1)) * 1) (5 : Nat) (ari BinOp.add IntKind.u64 (Rg.at (Rg.mk (Rg.r0 g) (Rg.r1 g) (Rg.r2 g) (Rg.r3 g) (Rg.r4 g) (Rg.r5 g) (Rg.r6 g) (Rg.r7 g)) (Int.toNat (intAt (Array.extract row (0 : Nat) ((0 : Nat) + k * 5)) (at5 (0 : Nat) nx + 2)))) (Rg.at (Rg.mk (Rg.r0 g) (Rg.r1 g) (Rg.r2 g) (Rg.r3 g) (Rg.r4 g) (Rg.r5 g) (Rg.r6 g) (Rg.r7 g)) (Int.toNat (intAt (Array.extract row (0 : Nat) ((0 : Nat) + k * 5)) (at5 (0 : Nat) nx + 3))))) (Rg.r3 g)) (selI ((2 : Nat) + Int.toNat (intAt (Array.extract row (0 : Nat) ((0 : Nat) + k * 5)) (at5 (0 : Nat) nx + 1)) * 1) (6 : Nat) (ari BinOp.add IntKind.u64 (Rg.at (Rg.mk (Rg.r0 g) (Rg.r1 g) (Rg.r2 g) (Rg.r3 g) (Rg.r4 g) (Rg.r5 g) (Rg.r6 g) (Rg.r7 g)) (Int.toNat (intAt (Array.extract row (0 : Nat) ((0 : Nat) + k * 5)) (at5 (0 : Nat) nx + 2)))) (Rg.at (Rg.mk (Rg.r0 g) (Rg.r1 g) (Rg.r2 g) (Rg.r3 g) (Rg.r4 g) (Rg.r5 g) (Rg.r6 g) (Rg.r7 g)) (Int.toNat (intAt (Array.extract row (0 : Nat) ((0 : Nat) + k * 5)) (at5 (0 : Nat) nx + 3))))) (Rg.r4 g)) (selI ((2 : Nat) + Int.toNat (intAt (Array.extract row (0 : Nat) ((0 : Nat) + k * 5)) (at5 (0 : Nat) nx + 1)) * 1) (7 : Nat) (ari BinOp.add IntKind.u64 (Rg.at (Rg.mk (Rg.r0 g) (Rg.r1 g) (Rg.r2 g) (Rg.r3 g) (Rg.r4 g) (Rg.r5 g) (Rg.r6 g) (Rg.r7 g)) (Int.toNat (intAt (Array.extract row (0 : Nat) ((0 : Nat) + k * 5)) (at5 (0 : Nat) nx + 2)))) (Rg.at (Rg.mk (Rg.r0 g) (Rg.r1 g) (Rg.r2 g) (Rg.r3 g) (Rg.r4 g) (Rg.r5 g) (Rg.r6 g) (Rg.r7 g)) (Int.toNat (intAt (Array.extract row (0 : Nat) ((0 : Nat) + k * 5)) (at5 (0 : Nat) nx + 3))))) (Rg.r5 g)) (selI ((2 : Nat) + Int.toNat (intAt (Array.extract row (0 : Nat) ((0 : Nat) + k * 5)) (at5 (0 : Nat) nx + 1)) * 1) (8 : Nat) (ari BinOp.add IntKind.u64 (Rg.at (Rg.mk (Rg.r0 g) (Rg.r1 g) (Rg.r2 g) (Rg.r3 g) (Rg.r4 g) (Rg.r5 g) (Rg.r6 g) (Rg.r7 g)) (Int.toNat (intAt (Array.extract row (0 : Nat) ((0 : Nat) + k * 5)) (at5 (0 : Nat) nx + 2)))) (Rg.at (Rg.mk (Rg.r0 g) (Rg.r1 g) (Rg.r2 g) (Rg.r3 g) (Rg.r4 g) (Rg.r5 g) (Rg.r6 g) (Rg.r7 g)) (Int.toNat (intAt (Array.extract row (0 : Nat) ((0 : Nat) + k * 5)) (at5 (0 : Nat) nx + 3))))) (Rg.r6 g)) (selI ((2 : Nat) + Int.toNat (intAt (Array.extract row (0 : Nat) ((0 : Nat) + k * 5)) (at5 (0 : Nat) nx + 1)) * 1) (9 : Nat) (ari BinOp.add IntKind.u64 (Rg.at (Rg.mk (Rg.r0 g) (Rg.r1 g) (Rg.r2 g) (Rg.r3 g) (Rg.r4 g) (Rg.r5 g) (Rg.r6 g) (Rg.r7 g)) (Int.toNat (intAt (Array.extract row (0 : Nat) ((0 : Nat) + k * 5)) (at5 (0 : Nat) nx + 2)))) (Rg.at (Rg.mk (Rg.r0 g) (Rg.r1 g) (Rg.r2 g) (Rg.r3 g) (Rg.r4 g) (Rg.r5 g) (Rg.r6 g) (Rg.r7 g)) (Int.toNat (intAt (Array.extract row (0 : Nat) ((0 : Nat) + k * 5)) (at5 (0 : Nat) nx + 3))))) (Rg.r7 g))) (Array.extract row (0 : Nat) ((0 : Nat) + k * 5)) ∧ CallKind.normal = CallKind.normal ∧ TodoOk (ren 1 [(1, 1), (2, 2), (3, 11), (4, 7)]) iTd iTd ∧ off = off ∧ n = n ∧ (↑k : Int) = (↑k : Int) ∧ i = i ∧ (0 : Int) = (0 : Int) ∧ false = false ∧ ty = ty ∧ rs = rs ∧ (28 : TypeId) = (28 : TypeId) ∧ k = k ∧ nx = nx ∧ Rg.r0 g = Rg.r0 g ∧ Rg.r1 g = Rg.r1 g ∧ Rg.r2 g = Rg.r2 g ∧ Rg.r3 g = Rg.r3 g ∧ Rg.r4 g = Rg.r4 g ∧ Rg.r5 g = Rg.r5 g ∧ Rg.r6 g = Rg.r6 g ∧ Rg.r7 g = Rg.r7 g ∧ (28 : TypeId) = (28 : Nat) ∧ k = (0 : Nat) + k ∧ ari BinOp.add IntKind.i64 nx (1 : Int) = ari BinOp.add IntKind.i64 nx (1 : Int) ∧ selI ((2 : Nat) + Int.toNat (intAt (Array.extract row (0 : Nat) ((0 : Nat) + k * 5)) (at5 (0 : Nat) nx + 1)) * 1) (2 : Nat) (ari BinOp.add IntKind.u64 (Rg.at (Rg.mk (Rg.r0 g) (Rg.r1 g) (Rg.r2 g) (Rg.r3 g) (Rg.r4 g) (Rg.r5 g) (Rg.r6 g) (Rg.r7 g)) (Int.toNat (intAt (Array.extract row (0 : Nat) ((0 : Nat) + k * 5)) (at5 (0 : Nat) nx + 2)))) (Rg.at (Rg.mk (Rg.r0 g) (Rg.r1 g) (Rg.r2 g) (Rg.r3 g) (Rg.r4 g) (Rg.r5 g) (Rg.r6 g) (Rg.r7 g)) (Int.toNat (intAt (Array.extract row (0 : Nat) ((0 : Nat) + k * 5)) (at5 (0 : Nat) nx + 3))))) (Rg.r0 g) = selI ((2 : Nat) + Int.toNat (intAt (Array.extract row (0 : Nat) ((0 : Nat) + k * 5)) (at5 (0 : Nat) nx + 1)) * 1) (2 : Nat) (ari BinOp.add IntKind.u64 (Rg.at (Rg.mk (Rg.r0 g) (Rg.r1 g) (Rg.r2 g) (Rg.r3 g) (Rg.r4 g) (Rg.r5 g) (Rg.r6 g) (Rg.r7 g)) (Int.toNat (intAt (Array.extract row (0 : Nat) ((0 : Nat) + k * 5)) (at5 (0 : Nat) nx + 2)))) (Rg.at (Rg.mk (Rg.r0 g) (Rg.r1 g) (Rg.r2 g) (Rg.r3 g) (Rg.r4 g) (Rg.r5 g) (Rg.r6 g) (Rg.r7 g)) (Int.toNat (intAt (Array.extract row (0 : Nat) ((0 : Nat) + k * 5)) (at5 (0 : Nat) nx + 3))))) (Rg.r0 g) ∧ selI ((2 : Nat) + Int.toNat (intAt (Array.extract row (0 : Nat) ((0 : Nat) + k * 5)) (at5 (0 : Nat) nx + 1)) * 1) (3 : Nat) (ari BinOp.add IntKind.u64 (Rg.at (Rg.mk (Rg.r0 g) (Rg.r1 g) (Rg.r2 g) (Rg.r3 g) (Rg.r4 g) (Rg.r5 g) (Rg.r6 g) (Rg.r7 g)) (Int.toNat (intAt (Array.extract row (0 : Nat) ((0 : Nat) + k * 5)) (at5 (0 : Nat) nx + 2)))) (Rg.at (Rg.mk (Rg.r0 g) (Rg.r1 g) (Rg.r2 g) (Rg.r3 g) (Rg.r4 g) (Rg.r5 g) (Rg.r6 g) (Rg.r7 g)) (Int.toNat (intAt (Array.extract row (0 : Nat) ((0 : Nat) + k * 5)) (at5 (0 : Nat) nx + 3))))) (Rg.r1 g) = selI ((2 : Nat) + Int.toNat (intAt (Array.extract row (0 : Nat) ((0 : Nat) + k * 5)) (at5 (0 : Nat) nx + 1)) * 1) (3 : Nat) (ari BinOp.add IntKind.u64 (Rg.at (Rg.mk (Rg.r0 g) (Rg.r1 g) (Rg.r2 g) (Rg.r3 g) (Rg.r4 g) (Rg.r5 g) (Rg.r6 g) (Rg.r7 g)) (Int.toNat (intAt (Array.extract row (0 : Nat) ((0 : Nat) + k * 5)) (at5 (0 : Nat) nx + 2)))) (Rg.at (Rg.mk (Rg.r0 g) (Rg.r1 g) (Rg.r2 g) (Rg.r3 g) (Rg.r4 g) (Rg.r5 g) (Rg.r6 g) (Rg.r7 g)) (Int.toNat (intAt (Array.extract row (0 : Nat) ((0 : Nat) + k * 5)) (at5 (0 : Nat) nx + 3))))) (Rg.r1 g) ∧ selI ((2 : Nat) + Int.toNat (intAt (Array.extract row (0 : Nat) ((0 : Nat) + k * 5)) (at5 (0 : Nat) nx + 1)) * 1) (4 : Nat) (ari BinOp.add IntKind.u64 (Rg.at (Rg.mk (Rg.r0 g) (Rg.r1 g) (Rg.r2 g) (Rg.r3 g) (Rg.r4 g) (Rg.r5 g) (Rg.r6 g) (Rg.r7 g)) (Int.toNat (intAt (Array.extract row (0 : Nat) ((0 : Nat) + k * 5)) (at5 (0 : Nat) nx + 2)))) (Rg.at (Rg.mk (Rg.r0 g) (Rg.r1 g) (Rg.r2 g) (Rg.r3 g) (Rg.r4 g) (Rg.r5 g) (Rg.r6 g) (Rg.r7 g)) (Int.toNat (intAt (Array.extract row (0 : Nat) ((0 : Nat) + k * 5)) (at5 (0 : Nat) nx + 3))))) (Rg.r2 g) = selI ((2 : Nat) + Int.toNat (intAt (Array.extract row (0 : Nat) ((0 : Nat) + k * 5)) (at5 (0 : Nat) nx + 1)) * 1) (4 : Nat) (ari BinOp.add IntKind.u64 (Rg.at (Rg.mk (Rg.r0 g) (Rg.r1 g) (Rg.r2 g) (Rg.r3 g) (Rg.r4 g) (Rg.r5 g) (Rg.r6 g) (Rg.r7 g)) (Int.toNat (intAt (Array.extract row (0 : Nat) ((0 : Nat) + k * 5)) (at5 (0 : Nat) nx + 2)))) (Rg.at (Rg.mk (Rg.r0 g) (Rg.r1 g) (Rg.r2 g) (Rg.r3 g) (Rg.r4 g) (Rg.r5 g) (Rg.r6 g) (Rg.r7 g)) (Int.toNat (intAt (Array.extract row (0 : Nat) ((0 : Nat) + k * 5)) (at5 (0 : Nat) nx + 3))))) (Rg.r2 g) ∧ selI ((2 : Nat) + Int.toNat (intAt (Array.extract row (0 : Nat) ((0 : Nat) + k * 5)) (at5 (0 : Nat) nx + 1)) * 1) (5 : Nat) (ari BinOp.add IntKind.u64 (Rg.at (Rg.mk (Rg.r0 g) (Rg.r1 g) (Rg.r2 g) (Rg.r3 g) (Rg.r4 g) (Rg.r5 g) (Rg.r6 g) (Rg.r7 g)) (Int.toNat (intAt (Array.extract row (0 : Nat) ((0 : Nat) + k * 5)) (at5 (0 : Nat) nx + 2)))) (Rg.at (Rg.mk (Rg.r0 g) (Rg.r1 g) (Rg.r2 g) (Rg.r3 g) (Rg.r4 g) (Rg.r5 g) (Rg.r6 g) (Rg.r7 g)) (Int.toNat (intAt (Array.extract row (0 : Nat) ((0 : Nat) + k * 5)) (at5 (0 : Nat) nx + 3))))) (Rg.r3 g) = selI ((2 : Nat) + Int.toNat (intAt (Array.extract row (0 : Nat) ((0 : Nat) + k * 5)) (at5 (0 : Nat) nx + 1)) * 1) (5 : Nat) (ari BinOp.add IntKind.u64 (Rg.at (Rg.mk (Rg.r0 g) (Rg.r1 g) (Rg.r2 g) (Rg.r3 g) (Rg.r4 g) (Rg.r5 g) (Rg.r6 g) (Rg.r7 g)) (Int.toNat (intAt (Array.extract row (0 : Nat) ((0 : Nat) + k * 5)) (at5 (0 : Nat) nx + 2)))) (Rg.at (Rg.mk (Rg.r0 g) (Rg.r1 g) (Rg.r2 g) (Rg.r3 g) (Rg.r4 g) (Rg.r5 g) (Rg.r6 g) (Rg.r7 g)) (Int.toNat (intAt (Array.extract row (0 : Nat) ((0 : Nat) + k * 5)) (at5 (0 : Nat) nx + 3))))) (Rg.r3 g) ∧ selI ((2 : Nat) + Int.toNat (intAt (Array.extract row (0 : Nat) ((0 : Nat) + k * 5)) (at5 (0 : Nat) nx + 1)) * 1) (6 : Nat) (ari BinOp.add IntKind.u64 (Rg.at (Rg.mk (Rg.r0 g) (Rg.r1 g) (Rg.r2 g) (Rg.r3 g) (Rg.r4 g) (Rg.r5 g) (Rg.r6 g) (Rg.r7 g)) (Int.toNat (intAt (Array.extract row (0 : Nat) ((0 : Nat) + k * 5)) (at5 (0 : Nat) nx + 2)))) (Rg.at (Rg.mk (Rg.r0 g) (Rg.r1 g) (Rg.r2 g) (Rg.r3 g) (Rg.r4 g) (Rg.r5 g) (Rg.r6 g) (Rg.r7 g)) (Int.toNat (intAt (Array.extract row (0 : Nat) ((0 : Nat) + k * 5)) (at5 (0 : Nat) nx + 3))))) (Rg.r4 g) = selI ((2 : Nat) + Int.toNat (intAt (Array.extract row (0 : Nat) ((0 : Nat) + k * 5)) (at5 (0 : Nat) nx + 1)) * 1) (6 : Nat) (ari BinOp.add IntKind.u64 (Rg.at (Rg.mk (Rg.r0 g) (Rg.r1 g) (Rg.r2 g) (Rg.r3 g) (Rg.r4 g) (Rg.r5 g) (Rg.r6 g) (Rg.r7 g)) (Int.toNat (intAt (Array.extract row (0 : Nat) ((0 : Nat) + k * 5)) (at5 (0 : Nat) nx + 2)))) (Rg.at (Rg.mk (Rg.r0 g) (Rg.r1 g) (Rg.r2 g) (Rg.r3 g) (Rg.r4 g) (Rg.r5 g) (Rg.r6 g) (Rg.r7 g)) (Int.toNat (intAt (Array.extract row (0 : Nat) ((0 : Nat) + k * 5)) (at5 (0 : Nat) nx + 3))))) (Rg.r4 g) ∧ selI ((2 : Nat) + Int.toNat (intAt (Array.extract row (0 : Nat) ((0 : Nat) + k * 5)) (at5 (0 : Nat) nx + 1)) * 1) (7 : Nat) (ari BinOp.add IntKind.u64 (Rg.at (Rg.mk (Rg.r0 g) (Rg.r1 g) (Rg.r2 g) (Rg.r3 g) (Rg.r4 g) (Rg.r5 g) (Rg.r6 g) (Rg.r7 g)) (Int.toNat (intAt (Array.extract row (0 : Nat) ((0 : Nat) + k * 5)) (at5 (0 : Nat) nx + 2)))) (Rg.at (Rg.mk (Rg.r0 g) (Rg.r1 g) (Rg.r2 g) (Rg.r3 g) (Rg.r4 g) (Rg.r5 g) (Rg.r6 g) (Rg.r7 g)) (Int.toNat (intAt (Array.extract row (0 : Nat) ((0 : Nat) + k * 5)) (at5 (0 : Nat) nx + 3))))) (Rg.r5 g) = selI ((2 : Nat) + Int.toNat (intAt (Array.extract row (0 : Nat) ((0 : Nat) + k * 5)) (at5 (0 : Nat) nx + 1)) * 1) (7 : Nat) (ari BinOp.add IntKind.u64 (Rg.at (Rg.mk (Rg.r0 g) (Rg.r1 g) (Rg.r2 g) (Rg.r3 g) (Rg.r4 g) (Rg.r5 g) (Rg.r6 g) (Rg.r7 g)) (Int.toNat (intAt (Array.extract row (0 : Nat) ((0 : Nat) + k * 5)) (at5 (0 : Nat) nx + 2)))) (Rg.at (Rg.mk (Rg.r0 g) (Rg.r1 g) (Rg.r2 g) (Rg.r3 g) (Rg.r4 g) (Rg.r5 g) (Rg.r6 g) (Rg.r7 g)) (Int.toNat (intAt (Array.extract row (0 : Nat) ((0 : Nat) + k * 5)) (at5 (0 : Nat) nx + 3))))) (Rg.r5 g) ∧ selI ((2 : Nat) + Int.toNat (intAt (Array.extract row (0 : Nat) ((0 : Nat) + k * 5)) (at5 (0 : Nat) nx + 1)) * 1) (8 : Nat) (ari BinOp.add IntKind.u64 (Rg.at (Rg.mk (Rg.r0 g) (Rg.r1 g) (Rg.r2 g) (Rg.r3 g) (Rg.r4 g) (Rg.r5 g) (Rg.r6 g) (Rg.r7 g)) (Int.toNat (intAt (Array.extract row (0 : Nat) ((0 : Nat) + k * 5)) (at5 (0 : Nat) nx + 2)))) (Rg.at (Rg.mk (Rg.r0 g) (Rg.r1 g) (Rg.r2 g) (Rg.r3 g) (Rg.r4 g) (Rg.r5 g) (Rg.r6 g) (Rg.r7 g)) (Int.toNat (intAt (Array.extract row (0 : Nat) ((0 : Nat) + k * 5)) (at5 (0 : Nat) nx + 3))))) (Rg.r6 g) = selI ((2 : Nat) + Int.toNat (intAt (Array.extract row (0 : Nat) ((0 : Nat) + k * 5)) (at5 (0 : Nat) nx + 1)) * 1) (8 : Nat) (ari BinOp.add IntKind.u64 (Rg.at (Rg.mk (Rg.r0 g) (Rg.r1 g) (Rg.r2 g) (Rg.r3 g) (Rg.r4 g) (Rg.r5 g) (Rg.r6 g) (Rg.r7 g)) (Int.toNat (intAt (Array.extract row (0 : Nat) ((0 : Nat) + k * 5)) (at5 (0 : Nat) nx + 2)))) (Rg.at (Rg.mk (Rg.r0 g) (Rg.r1 g) (Rg.r2 g) (Rg.r3 g) (Rg.r4 g) (Rg.r5 g) (Rg.r6 g) (Rg.r7 g)) (Int.toNat (intAt (Array.extract row (0 : Nat) ((0 : Nat) + k * 5)) (at5 (0 : Nat) nx + 3))))) (Rg.r6 g) ∧ selI ((2 : Nat) + Int.toNat (intAt (Array.extract row (0 : Nat) ((0 : Nat) + k * 5)) (at5 (0 : Nat) nx + 1)) * 1) (9 : Nat) (ari BinOp.add IntKind.u64 (Rg.at (Rg.mk (Rg.r0 g) (Rg.r1 g) (Rg.r2 g) (Rg.r3 g) (Rg.r4 g) (Rg.r5 g) (Rg.r6 g) (Rg.r7 g)) (Int.toNat (intAt (Array.extract row (0 : Nat) ((0 : Nat) + k * 5)) (at5 (0 : Nat) nx + 2)))) (Rg.at (Rg.mk (Rg.r0 g) (Rg.r1 g) (Rg.r2 g) (Rg.r3 g) (Rg.r4 g) (Rg.r5 g) (Rg.r6 g) (Rg.r7 g)) (Int.toNat (intAt (Array.extract row (0 : Nat) ((0 : Nat) + k * 5)) (at5 (0 : Nat) nx + 3))))) (Rg.r7 g) = selI ((2 : Nat) + Int.toNat (intAt (Array.extract row (0 : Nat) ((0 : Nat) + k * 5)) (at5 (0 : Nat) nx + 1)) * 1) (9 : Nat) (ari BinOp.add IntKind.u64 (Rg.at (Rg.mk (Rg.r0 g) (Rg.r1 g) (Rg.r2 g) (Rg.r3 g) (Rg.r4 g) (Rg.r5 g) (Rg.r6 g) (Rg.r7 g)) (Int.toNat (intAt (Array.extract row (0 : Nat) ((0 : Nat) + k * 5)) (at5 (0 : Nat) nx + 2)))) (Rg.at (Rg.mk (Rg.r0 g) (Rg.r1 g) (Rg.r2 g) (Rg.r3 g) (Rg.r4 g) (Rg.r5 g) (Rg.r6 g) (Rg.r7 g)) (Int.toNat (intAt (Array.extract row (0 : Nat) ((0 : Nat) + k * 5)) (at5 (0 : Nat) nx + 3))))) (Rg.r7 g) ∧ (62 : TypeId) = (62 : TypeId) ∧ row = row ∧ (62 : TypeId) = (62 : Nat) ∧ Array.extract row (0 : Nat) ((0 : Nat) + k * 5) = Array.extract row (0 : Nat) ((0 : Nat) + k * 5) ∧ True) ∧ (decide (intAt (Array.extract row (0 : Nat) ((0 : Nat) + k * 5)) (at5 (0 : Nat) nx + 1) < (8 : Int)) = false → Q (0 : Int) (ari BinOp.add IntKind.i64 nx (1 : Int)) (Rg.mk (Rg.r0 g) (Rg.r1 g) (Rg.r2 g) (Rg.r3 g) (Rg.r4 g) (Rg.r5 g) (Rg.r6 g) (Rg.r7 g)) (Array.extract row (0 : Nat) ((0 : Nat) + k * 5)) ∧ CallKind.normal = CallKind.normal ∧ TodoOk (ren 1 [(1, 1), (2, 2), (3, 11), (4, 7)]) iTd iTd ∧ off = off ∧ n = n ∧ (↑k : Int) = (↑k : Int) ∧ i = i ∧ (0 : Int) = (0 : Int) ∧ false = false ∧ ty = ty ∧ rs = rs ∧ (28 : TypeId) = (28 : TypeId) ∧ k = k ∧ nx = nx ∧ Rg.r0 g = Rg.r0 g ∧ Rg.r1 g = Rg.r1 g ∧ Rg.r2 g = Rg.r2 g ∧ Rg.r3 g = Rg.r3 g ∧ Rg.r4 g = Rg.r4 g ∧ Rg.r5 g = Rg.r5 g ∧ Rg.r6 g = Rg.r6 g ∧ Rg.r7 g = Rg.r7 g ∧ (28 : TypeId) = (28 : Nat) ∧ k = (0 : Nat) + k ∧ ari BinOp.add IntKind.i64 nx (1 : Int) = ari BinOp.add IntKind.i64 nx (1 : Int) ∧ Rg.r0 g = Rg.r0 g ∧ Rg.r1 g = Rg.r1 g ∧ Rg.r2 g = Rg.r2 g ∧ Rg.r3 g = Rg.r3 g ∧ Rg.r4 g = Rg.r4 g ∧ Rg.r5 g = Rg.r5 g ∧ Rg.r6 g = Rg.r6 g ∧ Rg.r7 g = Rg.r7 g ∧ (62 : TypeId) = (62 : TypeId) ∧ row = row ∧ (62 : TypeId) = (62 : Nat) ∧ Array.extract row (0 : Nat) ((0 : Nat) + k * 5) = Array.extract row (0 : Nat) ((0 : Nat) + k * 5) ∧ True)) ∧ (decide (i < (↑n : Int)) = false → true = true)) := by kernel_rfl
theorem go_5 (off n : Nat) (rs : Array Value) (ty : TypeId) (k : Nat) (i nx : Int) (g : Rg) (row : Array Value) (Q : Int → Int → Rg → Array Value → Prop) : (oS true 5 off n rs ty k i nx g row).vc (boolR true) (iN false off n rs ty k 0 i nx g row false Q) =
    ((decide (i < (↑n : Int)) = true → (((0 : Int) ≤ nx ∧ nx < (↑k : Int)) ∧ InsAt row (at5 (0 : Nat) nx) ∧ in8 row (at5 (0 : Nat) nx) ∧ (intAt row (at5 (0 : Nat) nx) = (3 : Int) ∧ (0 : Int) < intAt row (at5 (0 : Nat) nx) ∧ intAt row (at5 (0 : Nat) nx) ≤ (6 : Int)) ∧ True) ∧ ((0 : Nat) + k * 5 ≤ Array.size row ∧ (((0 : Nat) + k) * 6 ≤ (140737488355328 : Nat) ∧ (0 : Nat) + k ≤ (140737488355328 : Nat)) ∧ True) ∧ (((0 : Int) ≤ nx ∧ nx < (↑((0 : Nat) + k) : Int)) ∧ InsAt (Array.extract row (0 : Nat) ((0 : Nat) + k * 5)) (at5 (0 : Nat) nx) ∧ in8 (Array.extract row (0 : Nat) ((0 : Nat) + k * 5)) (at5 (0 : Nat) nx) ∧ (intAt (Array.extract row (0 : Nat) ((0 : Nat) + k * 5)) (at5 (0 : Nat) nx) = (3 : Int) ∧ (0 : Int) < intAt (Array.extract row (0 : Nat) ((0 : Nat) + k * 5)) (at5 (0 : Nat) nx) ∧ intAt (Array.extract row (0 : Nat) ((0 : Nat) + k * 5)) (at5 (0 : Nat) nx) ≤ (6 : Int)) ∧ True) ∧ (((0 : Int) ≤ nx ∧ nx < (↑((0 : Nat) + k) : Int)) ∧ InsAt (Array.extract row (0 : Nat) ((0 : Nat) + k * 5)) (at5 (0 : Nat) nx) ∧ in8 (Array.extract row (0 : Nat) ((0 : Nat) + k * 5)) (at5 (0 : Nat) nx) ∧ (intAt (Array.extract row (0 : Nat) ((0 : Nat) + k * 5)) (at5 (0 : Nat) nx) = (3 : Int) ∧ (0 : Int) < intAt (Array.extract row (0 : Nat) ((0 : Nat) + k * 5)) (at5 (0 : Nat) nx) ∧ intAt (Array.extract row (0 : Nat) ((0 : Nat) + k * 5)) (at5 (0 : Nat) nx) ≤ (6 : Int)) ∧ True) ∧ (((0 : Int) ≤ intAt (Array.extract row (0 : Nat) ((0 : Nat) + k * 5)) (at5 (0 : Nat) nx + 2) ∧ intAt (Array.extract row (0 : Nat) ((0 : Nat) + k * 5)) (at5 (0 : Nat) nx + 2) < (8 : Int)) ∧ True) ∧ (((0 : Int) ≤ intAt (Array.extract row (0 : Nat) ((0 : Nat) + k * 5)) (at5 (0 : Nat) nx + 3) ∧ intAt (Array.extract row (0 : Nat) ((0 : Nat) + k * 5)) (at5 (0 : Nat) nx + 3) < (8 : Int)) ∧ True) ∧ (decide (intAt (Array.extract row (0 : Nat) ((0 : Nat) + k * 5)) (at5 (0 : Nat) nx + 1) < (8 : Int)) = true → (((0 : Int) ≤ intAt (Array.extract row (0 : Nat) ((0 : Nat) + k * 5)) (at5 (0 : Nat) nx + 1) ∧ intAt (Array.extract row (0 : Nat) ((0 : Nat) + k * 5)) (at5 (0 : Nat) nx + 1) < (8 : Int)) ∧ True) ∧ (((2 : Nat) ≤ (2 : Nat) + Int.toNat (intAt (Array.extract row (0 : Nat) ((0 : Nat) + k * 5)) (at5 (0 : Nat) nx + 1)) * 1 ∧ (2 : Nat) + Int.toNat (intAt (Array.extract row (0 : Nat) ((0 : Nat) + k * 5)) (at5 (0 : Nat) nx + 1)) * 1 < (10 : Nat)) ∧ True) ∧ Q (0 : Int) (ari BinOp.add IntKind.i64 nx (1 : Int)) (Rg.mk (selI ((2 : Nat) + Int.toNat (intAt (Array.extract row (0 : Nat) ((0 : Nat) + k * 5)) (at5 (0 : Nat) nx + 1)) * 1) (2 : Nat) (ari BinOp.sub IntKind.u64 (Rg.at (Rg.mk (Rg.r0 g) (Rg.r1 g) (Rg.r2 g) (Rg.r3 g) (Rg.r4 g) (Rg.r5 g) (Rg.r6 g) (Rg.r7 g)) (Int.toNat (intAt (Array.extract row (0 : Nat) ((0 : Nat) + k * 5)) (at5 (0 : Nat) nx + 2)))) (Rg.at (Rg.mk (Rg.r0 g) (Rg.r1 g) (Rg.r2 g) (Rg.r3 g) (Rg.r4 g) (Rg.r5 g) (Rg.r6 g) (Rg.r7 g)) (Int.toNat (intAt (Array.extract row (0 : Nat) ((0 : Nat) + k * 5)) (at5 (0 : Nat) nx + 3))))) (Rg.r0 g)) (selI ((2 : Nat) + Int.toNat (intAt (Array.extract row (0 : Nat) ((0 : Nat) + k * 5)) (at5 (0 : Nat) nx + 1)) * 1) (3 : Nat) (ari BinOp.sub IntKind.u64 (Rg.at (Rg.mk (Rg.r0 g) (Rg.r1 g) (Rg.r2 g) (Rg.r3 g) (Rg.r4 g) (Rg.r5 g) (Rg.r6 g) (Rg.r7 g)) (Int.toNat (intAt (Array.extract row (0 : Nat) ((0 : Nat) + k * 5)) (at5 (0 : Nat) nx + 2)))) (Rg.at (Rg.mk (Rg.r0 g) (Rg.r1 g) (Rg.r2 g) (Rg.r3 g) (Rg.r4 g) (Rg.r5 g) (Rg.r6 g) (Rg.r7 g)) (Int.toNat (intAt (Array.extract row (0 : Nat) ((0 : Nat) + k * 5)) (at5 (0 : Nat) nx + 3))))) (Rg.r1 g)) (selI ((2 : Nat) + Int.toNat (intAt (Array.extract row (0 : Nat) ((0 : Nat) + k * 5)) (at5 (0 : Nat) nx + 1)) * 1) (4 : Nat) (ari BinOp.sub IntKind.u64 (Rg.at (Rg.mk (Rg.r0 g) (Rg.r1 g) (Rg.r2 g) (Rg.r3 g) (Rg.r4 g) (Rg.r5 g) (Rg.r6 g) (Rg.r7 g)) (Int.toNat (intAt (Array.extract row (0 : Nat) ((0 : Nat) + k * 5)) (at5 (0 : Nat) nx + 2)))) (Rg.at (Rg.mk (Rg.r0 g) (Rg.r1 g) (Rg.r2 g) (Rg.r3 g) (Rg.r4 g) (Rg.r5 g) (Rg.r6 g) (Rg.r7 g)) (Int.toNat (intAt (Array.extract row (0 : Nat) ((0 : Nat) + k * 5)) (at5 (0 : Nat) nx + 3))))) (Rg.r2 g)) (selI ((2 : Nat) + Int.toNat (intAt (Array.extract row (0 : Nat) ((0 : Nat) + k * 5)) (at5 (0 : Nat) nx + 1)) * 1) (5 : Nat) (ari BinOp.sub IntKind.u64 (Rg.at (Rg.mk (Rg.r0 g) (Rg.r1 g) (Rg.r2 g) (Rg.r3 g) (Rg.r4 g) (Rg.r5 g) (Rg.r6 g) (Rg.r7 g)) (Int.toNat (intAt (Array.extract row (0 : Nat) ((0 : Nat) + k * 5)) (at5 (0 : Nat) nx + 2)))) (Rg.at (Rg.mk (Rg.r0 g) (Rg.r1 g) (Rg.r2 g) (Rg.r3 g) (Rg.r4 g) (Rg.r5 g) (Rg.r6 g) (Rg.r7 g)) (Int.toNat (intAt (Array.extract row (0 : Nat) ((0 : Nat) + k * 5)) (at5 (0 : Nat) nx + 3))))) (Rg.r3 g)) (selI ((2 : Nat) + Int.toNat (intAt (Array.extract row (0 : Nat) ((0 : Nat) + k * 5)) (at5 (0 : Nat) nx + 1)) * 1) (6 : Nat) (ari BinOp.sub IntKind.u64 (Rg.at (Rg.mk (Rg.r0 g) (Rg.r1 g) (Rg.r2 g) (Rg.r3 g) (Rg.r4 g) (Rg.r5 g) (Rg.r6 g) (Rg.r7 g)) (Int.toNat (intAt (Array.extract row (0 : Nat) ((0 : Nat) + k * 5)) (at5 (0 : Nat) nx + 2)))) (Rg.at (Rg.mk (Rg.r0 g) (Rg.r1 g) (Rg.r2 g) (Rg.r3 g) (Rg.r4 g) (Rg.r5 g) (Rg.r6 g) (Rg.r7 g)) (Int.toNat (intAt (Array.extract row (0 : Nat) ((0 : Nat) + k * 5)) (at5 (0 : Nat) nx + 3))))) (Rg.r4 g)) (selI ((2 : Nat) + Int.toNat (intAt (Array.extract row (0 : Nat) ((0 : Nat) + k * 5)) (at5 (0 : Nat) nx + 1)) * 1) (7 : Nat) (ari BinOp.sub IntKind.u64 (Rg.at (Rg.mk (Rg.r0 g) (Rg.r1 g) (Rg.r2 g) (Rg.r3 g) (Rg.r4 g) (Rg.r5 g) (Rg.r6 g) (Rg.r7 g)) (Int.toNat (intAt (Array.extract row (0 : Nat) ((0 : Nat) + k * 5)) (at5 (0 : Nat) nx + 2)))) (Rg.at (Rg.mk (Rg.r0 g) (Rg.r1 g) (Rg.r2 g) (Rg.r3 g) (Rg.r4 g) (Rg.r5 g) (Rg.r6 g) (Rg.r7 g)) (Int.toNat (intAt (Array.extract row (0 : Nat) ((0 : Nat) + k * 5)) (at5 (0 : Nat) nx + 3))))) (Rg.r5 g)) (selI ((2 : Nat) + Int.toNat (intAt (Array.extract row (0 : Nat) ((0 : Nat) + k * 5)) (at5 (0 : Nat) nx + 1)) * 1) (8 : Nat) (ari BinOp.sub IntKind.u64 (Rg.at (Rg.mk (Rg.r0 g) (Rg.r1 g) (Rg.r2 g) (Rg.r3 g) (Rg.r4 g) (Rg.r5 g) (Rg.r6 g) (Rg.r7 g)) (Int.toNat (intAt (Array.extract row (0 : Nat) ((0 : Nat) + k * 5)) (at5 (0 : Nat) nx + 2)))) (Rg.at (Rg.mk (Rg.r0 g) (Rg.r1 g) (Rg.r2 g) (Rg.r3 g) (Rg.r4 g) (Rg.r5 g) (Rg.r6 g) (Rg.r7 g)) (Int.toNat (intAt (Array.extract row (0 : Nat) ((0 : Nat) + k * 5)) (at5 (0 : Nat) nx + 3))))) (Rg.r6 g)) (selI ((2 : Nat) + Int.toNat (intAt (Array.extract row (0 : Nat) ((0 : Nat) + k * 5)) (at5 (0 : Nat) nx + 1)) * 1) (9 : Nat) (ari BinOp.sub IntKind.u64 (Rg.at (Rg.mk (Rg.r0 g) (Rg.r1 g) (Rg.r2 g) (Rg.r3 g) (Rg.r4 g) (Rg.r5 g) (Rg.r6 g) (Rg.r7 g)) (Int.toNat (intAt (Array.extract row (0 : Nat) ((0 : Nat) + k * 5)) (at5 (0 : Nat) nx + 2)))) (Rg.at (Rg.mk (Rg.r0 g) (Rg.r1 g) (Rg.r2 g) (Rg.r3 g) (Rg.r4 g) (Rg.r5 g) (Rg.r6 g) (Rg.r7 g)) (Int.toNat (intAt (Array.extract row (0 : Nat) ((0 : Nat) + k * 5)) (at5 (0 : Nat) nx + 3))))) (Rg.r7 g))) (Array.extract row (0 : Nat) ((0 : Nat) + k * 5)) ∧ CallKind.normal = CallKind.normal ∧ TodoOk (ren 1 [(1, 1), (2, 2), (3, 11), (4, 7)]) iTd iTd ∧ off = off ∧ n = n ∧ (↑k : Int) = (↑k : Int) ∧ i = i ∧ (0 : Int) = (0 : Int) ∧ false = false ∧ ty = ty ∧ rs = rs ∧ (28 : TypeId) = (28 : TypeId) ∧ k = k ∧ nx = nx ∧ Rg.r0 g = Rg.r0 g ∧ Rg.r1 g = Rg.r1 g ∧ Rg.r2 g = Rg.r2 g ∧ Rg.r3 g = Rg.r3 g ∧ Rg.r4 g = Rg.r4 g ∧ Rg.r5 g = Rg.r5 g ∧ Rg.r6 g = Rg.r6 g ∧ Rg.r7 g = Rg.r7 g ∧ (28 : TypeId) = (28 : Nat) ∧ k = (0 : Nat) + k ∧ ari BinOp.add IntKind.i64 nx (1 : Int) = ari BinOp.add IntKind.i64 nx (1 : Int) ∧ selI ((2 : Nat) + Int.toNat (intAt (Array.extract row (0 : Nat) ((0 : Nat) + k * 5)) (at5 (0 : Nat) nx + 1)) * 1) (2 : Nat) (ari BinOp.sub IntKind.u64 (Rg.at (Rg.mk (Rg.r0 g) (Rg.r1 g) (Rg.r2 g) (Rg.r3 g) (Rg.r4 g) (Rg.r5 g) (Rg.r6 g) (Rg.r7 g)) (Int.toNat (intAt (Array.extract row (0 : Nat) ((0 : Nat) + k * 5)) (at5 (0 : Nat) nx + 2)))) (Rg.at (Rg.mk (Rg.r0 g) (Rg.r1 g) (Rg.r2 g) (Rg.r3 g) (Rg.r4 g) (Rg.r5 g) (Rg.r6 g) (Rg.r7 g)) (Int.toNat (intAt (Array.extract row (0 : Nat) ((0 : Nat) + k * 5)) (at5 (0 : Nat) nx + 3))))) (Rg.r0 g) = selI ((2 : Nat) + Int.toNat (intAt (Array.extract row (0 : Nat) ((0 : Nat) + k * 5)) (at5 (0 : Nat) nx + 1)) * 1) (2 : Nat) (ari BinOp.sub IntKind.u64 (Rg.at (Rg.mk (Rg.r0 g) (Rg.r1 g) (Rg.r2 g) (Rg.r3 g) (Rg.r4 g) (Rg.r5 g) (Rg.r6 g) (Rg.r7 g)) (Int.toNat (intAt (Array.extract row (0 : Nat) ((0 : Nat) + k * 5)) (at5 (0 : Nat) nx + 2)))) (Rg.at (Rg.mk (Rg.r0 g) (Rg.r1 g) (Rg.r2 g) (Rg.r3 g) (Rg.r4 g) (Rg.r5 g) (Rg.r6 g) (Rg.r7 g)) (Int.toNat (intAt (Array.extract row (0 : Nat) ((0 : Nat) + k * 5)) (at5 (0 : Nat) nx + 3))))) (Rg.r0 g) ∧ selI ((2 : Nat) + Int.toNat (intAt (Array.extract row (0 : Nat) ((0 : Nat) + k * 5)) (at5 (0 : Nat) nx + 1)) * 1) (3 : Nat) (ari BinOp.sub IntKind.u64 (Rg.at (Rg.mk (Rg.r0 g) (Rg.r1 g) (Rg.r2 g) (Rg.r3 g) (Rg.r4 g) (Rg.r5 g) (Rg.r6 g) (Rg.r7 g)) (Int.toNat (intAt (Array.extract row (0 : Nat) ((0 : Nat) + k * 5)) (at5 (0 : Nat) nx + 2)))) (Rg.at (Rg.mk (Rg.r0 g) (Rg.r1 g) (Rg.r2 g) (Rg.r3 g) (Rg.r4 g) (Rg.r5 g) (Rg.r6 g) (Rg.r7 g)) (Int.toNat (intAt (Array.extract row (0 : Nat) ((0 : Nat) + k * 5)) (at5 (0 : Nat) nx + 3))))) (Rg.r1 g) = selI ((2 : Nat) + Int.toNat (intAt (Array.extract row (0 : Nat) ((0 : Nat) + k * 5)) (at5 (0 : Nat) nx + 1)) * 1) (3 : Nat) (ari BinOp.sub IntKind.u64 (Rg.at (Rg.mk (Rg.r0 g) (Rg.r1 g) (Rg.r2 g) (Rg.r3 g) (Rg.r4 g) (Rg.r5 g) (Rg.r6 g) (Rg.r7 g)) (Int.toNat (intAt (Array.extract row (0 : Nat) ((0 : Nat) + k * 5)) (at5 (0 : Nat) nx + 2)))) (Rg.at (Rg.mk (Rg.r0 g) (Rg.r1 g) (Rg.r2 g) (Rg.r3 g) (Rg.r4 g) (Rg.r5 g) (Rg.r6 g) (Rg.r7 g)) (Int.toNat (intAt (Array.extract row (0 : Nat) ((0 : Nat) + k * 5)) (at5 (0 : Nat) nx + 3))))) (Rg.r1 g) ∧ selI ((2 : Nat) + Int.toNat (intAt (Array.extract row (0 : Nat) ((0 : Nat) + k * 5)) (at5 (0 : Nat) nx + 1)) * 1) (4 : Nat) (ari BinOp.sub IntKind.u64 (Rg.at (Rg.mk (Rg.r0 g) (Rg.r1 g) (Rg.r2 g) (Rg.r3 g) (Rg.r4 g) (Rg.r5 g) (Rg.r6 g) (Rg.r7 g)) (Int.toNat (intAt (Array.extract row (0 : Nat) ((0 : Nat) + k * 5)) (at5 (0 : Nat) nx + 2)))) (Rg.at (Rg.mk (Rg.r0 g) (Rg.r1 g) (Rg.r2 g) (Rg.r3 g) (Rg.r4 g) (Rg.r5 g) (Rg.r6 g) (Rg.r7 g)) (Int.toNat (intAt (Array.extract row (0 : Nat) ((0 : Nat) + k * 5)) (at5 (0 : Nat) nx + 3))))) (Rg.r2 g) = selI ((2 : Nat) + Int.toNat (intAt (Array.extract row (0 : Nat) ((0 : Nat) + k * 5)) (at5 (0 : Nat) nx + 1)) * 1) (4 : Nat) (ari BinOp.sub IntKind.u64 (Rg.at (Rg.mk (Rg.r0 g) (Rg.r1 g) (Rg.r2 g) (Rg.r3 g) (Rg.r4 g) (Rg.r5 g) (Rg.r6 g) (Rg.r7 g)) (Int.toNat (intAt (Array.extract row (0 : Nat) ((0 : Nat) + k * 5)) (at5 (0 : Nat) nx + 2)))) (Rg.at (Rg.mk (Rg.r0 g) (Rg.r1 g) (Rg.r2 g) (Rg.r3 g) (Rg.r4 g) (Rg.r5 g) (Rg.r6 g) (Rg.r7 g)) (Int.toNat (intAt (Array.extract row (0 : Nat) ((0 : Nat) + k * 5)) (at5 (0 : Nat) nx + 3))))) (Rg.r2 g) ∧ selI ((2 : Nat) + Int.toNat (intAt (Array.extract row (0 : Nat) ((0 : Nat) + k * 5)) (at5 (0 : Nat) nx + 1)) * 1) (5 : Nat) (ari BinOp.sub IntKind.u64 (Rg.at (Rg.mk (Rg.r0 g) (Rg.r1 g) (Rg.r2 g) (Rg.r3 g) (Rg.r4 g) (Rg.r5 g) (Rg.r6 g) (Rg.r7 g)) (Int.toNat (intAt (Array.extract row (0 : Nat) ((0 : Nat) + k * 5)) (at5 (0 : Nat) nx + 2)))) (Rg.at (Rg.mk (Rg.r0 g) (Rg.r1 g) (Rg.r2 g) (Rg.r3 g) (Rg.r4 g) (Rg.r5 g) (Rg.r6 g) (Rg.r7 g)) (Int.toNat (intAt (Array.extract row (0 : Nat) ((0 : Nat) + k * 5)) (at5 (0 : Nat) nx + 3))))) (Rg.r3 g) = selI ((2 : Nat) + Int.toNat (intAt (Array.extract row (0 : Nat) ((0 : Nat) + k * 5)) (at5 (0 : Nat) nx + 1)) * 1) (5 : Nat) (ari BinOp.sub IntKind.u64 (Rg.at (Rg.mk (Rg.r0 g) (Rg.r1 g) (Rg.r2 g) (Rg.r3 g) (Rg.r4 g) (Rg.r5 g) (Rg.r6 g) (Rg.r7 g)) (Int.toNat (intAt (Array.extract row (0 : Nat) ((0 : Nat) + k * 5)) (at5 (0 : Nat) nx + 2)))) (Rg.at (Rg.mk (Rg.r0 g) (Rg.r1 g) (Rg.r2 g) (Rg.r3 g) (Rg.r4 g) (Rg.r5 g) (Rg.r6 g) (Rg.r7 g)) (Int.toNat (intAt (Array.extract row (0 : Nat) ((0 : Nat) + k * 5)) (at5 (0 : Nat) nx + 3))))) (Rg.r3 g) ∧ selI ((2 : Nat) + Int.toNat (intAt (Array.extract row (0 : Nat) ((0 : Nat) + k * 5)) (at5 (0 : Nat) nx + 1)) * 1) (6 : Nat) (ari BinOp.sub IntKind.u64 (Rg.at (Rg.mk (Rg.r0 g) (Rg.r1 g) (Rg.r2 g) (Rg.r3 g) (Rg.r4 g) (Rg.r5 g) (Rg.r6 g) (Rg.r7 g)) (Int.toNat (intAt (Array.extract row (0 : Nat) ((0 : Nat) + k * 5)) (at5 (0 : Nat) nx + 2)))) (Rg.at (Rg.mk (Rg.r0 g) (Rg.r1 g) (Rg.r2 g) (Rg.r3 g) (Rg.r4 g) (Rg.r5 g) (Rg.r6 g) (Rg.r7 g)) (Int.toNat (intAt (Array.extract row (0 : Nat) ((0 : Nat) + k * 5)) (at5 (0 : Nat) nx + 3))))) (Rg.r4 g) = selI ((2 : Nat) + Int.toNat (intAt (Array.extract row (0 : Nat) ((0 : Nat) + k * 5)) (at5 (0 : Nat) nx + 1)) * 1) (6 : Nat) (ari BinOp.sub IntKind.u64 (Rg.at (Rg.mk (Rg.r0 g) (Rg.r1 g) (Rg.r2 g) (Rg.r3 g) (Rg.r4 g) (Rg.r5 g) (Rg.r6 g) (Rg.r7 g)) (Int.toNat (intAt (Array.extract row (0 : Nat) ((0 : Nat) + k * 5)) (at5 (0 : Nat) nx + 2)))) (Rg.at (Rg.mk (Rg.r0 g) (Rg.r1 g) (Rg.r2 g) (Rg.r3 g) (Rg.r4 g) (Rg.r5 g) (Rg.r6 g) (Rg.r7 g)) (Int.toNat (intAt (Array.extract row (0 : Nat) ((0 : Nat) + k * 5)) (at5 (0 : Nat) nx + 3))))) (Rg.r4 g) ∧ selI ((2 : Nat) + Int.toNat (intAt (Array.extract row (0 : Nat) ((0 : Nat) + k * 5)) (at5 (0 : Nat) nx + 1)) * 1) (7 : Nat) (ari BinOp.sub IntKind.u64 (Rg.at (Rg.mk (Rg.r0 g) (Rg.r1 g) (Rg.r2 g) (Rg.r3 g) (Rg.r4 g) (Rg.r5 g) (Rg.r6 g) (Rg.r7 g)) (Int.toNat (intAt (Array.extract row (0 : Nat) ((0 : Nat) + k * 5)) (at5 (0 : Nat) nx + 2)))) (Rg.at (Rg.mk (Rg.r0 g) (Rg.r1 g) (Rg.r2 g) (Rg.r3 g) (Rg.r4 g) (Rg.r5 g) (Rg.r6 g) (Rg.r7 g)) (Int.toNat (intAt (Array.extract row (0 : Nat) ((0 : Nat) + k * 5)) (at5 (0 : Nat) nx + 3))))) (Rg.r5 g) = selI ((2 : Nat) + Int.toNat (intAt (Array.extract row (0 : Nat) ((0 : Nat) + k * 5)) (at5 (0 : Nat) nx + 1)) * 1) (7 : Nat) (ari BinOp.sub IntKind.u64 (Rg.at (Rg.mk (Rg.r0 g) (Rg.r1 g) (Rg.r2 g) (Rg.r3 g) (Rg.r4 g) (Rg.r5 g) (Rg.r6 g) (Rg.r7 g)) (Int.toNat (intAt (Array.extract row (0 : Nat) ((0 : Nat) + k * 5)) (at5 (0 : Nat) nx + 2)))) (Rg.at (Rg.mk (Rg.r0 g) (Rg.r1 g) (Rg.r2 g) (Rg.r3 g) (Rg.r4 g) (Rg.r5 g) (Rg.r6 g) (Rg.r7 g)) (Int.toNat (intAt (Array.extract row (0 : Nat) ((0 : Nat) + k * 5)) (at5 (0 : Nat) nx + 3))))) (Rg.r5 g) ∧ selI ((2 : Nat) + Int.toNat (intAt (Array.extract row (0 : Nat) ((0 : Nat) + k * 5)) (at5 (0 : Nat) nx + 1)) * 1) (8 : Nat) (ari BinOp.sub IntKind.u64 (Rg.at (Rg.mk (Rg.r0 g) (Rg.r1 g) (Rg.r2 g) (Rg.r3 g) (Rg.r4 g) (Rg.r5 g) (Rg.r6 g) (Rg.r7 g)) (Int.toNat (intAt (Array.extract row (0 : Nat) ((0 : Nat) + k * 5)) (at5 (0 : Nat) nx + 2)))) (Rg.at (Rg.mk (Rg.r0 g) (Rg.r1 g) (Rg.r2 g) (Rg.r3 g) (Rg.r4 g) (Rg.r5 g) (Rg.r6 g) (Rg.r7 g)) (Int.toNat (intAt (Array.extract row (0 : Nat) ((0 : Nat) + k * 5)) (at5 (0 : Nat) nx + 3))))) (Rg.r6 g) = selI ((2 : Nat) + Int.toNat (intAt (Array.extract row (0 : Nat) ((0 : Nat) + k * 5)) (at5 (0 : Nat) nx + 1)) * 1) (8 : Nat) (ari BinOp.sub IntKind.u64 (Rg.at (Rg.mk (Rg.r0 g) (Rg.r1 g) (Rg.r2 g) (Rg.r3 g) (Rg.r4 g) (Rg.r5 g) (Rg.r6 g) (Rg.r7 g)) (Int.toNat (intAt (Array.extract row (0 : Nat) ((0 : Nat) + k * 5)) (at5 (0 : Nat) nx + 2)))) (Rg.at (Rg.mk (Rg.r0 g) (Rg.r1 g) (Rg.r2 g) (Rg.r3 g) (Rg.r4 g) (Rg.r5 g) (Rg.r6 g) (Rg.r7 g)) (Int.toNat (intAt (Array.extract row (0 : Nat) ((0 : Nat) + k * 5)) (at5 (0 : Nat) nx + 3))))) (Rg.r6 g) ∧ selI ((2 : Nat) + Int.toNat (intAt (Array.extract row (0 : Nat) ((0 : Nat) + k * 5)) (at5 (0 : Nat) nx + 1)) * 1) (9 : Nat) (ari BinOp.sub IntKind.u64 (Rg.at (Rg.mk (Rg.r0 g) (Rg.r1 g) (Rg.r2 g) (Rg.r3 g) (Rg.r4 g) (Rg.r5 g) (Rg.r6 g) (Rg.r7 g)) (Int.toNat (intAt (Array.extract row (0 : Nat) ((0 : Nat) + k * 5)) (at5 (0 : Nat) nx + 2)))) (Rg.at (Rg.mk (Rg.r0 g) (Rg.r1 g) (Rg.r2 g) (Rg.r3 g) (Rg.r4 g) (Rg.r5 g) (Rg.r6 g) (Rg.r7 g)) (Int.toNat (intAt (Array.extract row (0 : Nat) ((0 : Nat) + k * 5)) (at5 (0 : Nat) nx + 3))))) (Rg.r7 g) = selI ((2 : Nat) + Int.toNat (intAt (Array.extract row (0 : Nat) ((0 : Nat) + k * 5)) (at5 (0 : Nat) nx + 1)) * 1) (9 : Nat) (ari BinOp.sub IntKind.u64 (Rg.at (Rg.mk (Rg.r0 g) (Rg.r1 g) (Rg.r2 g) (Rg.r3 g) (Rg.r4 g) (Rg.r5 g) (Rg.r6 g) (Rg.r7 g)) (Int.toNat (intAt (Array.extract row (0 : Nat) ((0 : Nat) + k * 5)) (at5 (0 : Nat) nx + 2)))) (Rg.at (Rg.mk (Rg.r0 g) (Rg.r1 g) (Rg.r2 g) (Rg.r3 g) (Rg.r4 g) (Rg.r5 g) (Rg.r6 g) (Rg.r7 g)) (Int.toNat (intAt (Array.extract row (0 : Nat) ((0 : Nat) + k * 5)) (at5 (0 : Nat) nx + 3))))) (Rg.r7 g) ∧ (62 : TypeId) = (62 : TypeId) ∧ row = row ∧ (62 : TypeId) = (62 : Nat) ∧ Array.extract row (0 : Nat) ((0 : Nat) + k * 5) = Array.extract row (0 : Nat) ((0 : Nat) + k * 5) ∧ True) ∧ (decide (intAt (Array.extract row (0 : Nat) ((0 : Nat) + k * 5)) (at5 (0 : Nat) nx + 1) < (8 : Int)) = false → Q (0 : Int) (ari BinOp.add IntKind.i64 nx (1 : Int)) (Rg.mk (Rg.r0 g) (Rg.r1 g) (Rg.r2 g) (Rg.r3 g) (Rg.r4 g) (Rg.r5 g) (Rg.r6 g) (Rg.r7 g)) (Array.extract row (0 : Nat) ((0 : Nat) + k * 5)) ∧ CallKind.normal = CallKind.normal ∧ TodoOk (ren 1 [(1, 1), (2, 2), (3, 11), (4, 7)]) iTd iTd ∧ off = off ∧ n = n ∧ (↑k : Int) = (↑k : Int) ∧ i = i ∧ (0 : Int) = (0 : Int) ∧ false = false ∧ ty = ty ∧ rs = rs ∧ (28 : TypeId) = (28 : TypeId) ∧ k = k ∧ nx = nx ∧ Rg.r0 g = Rg.r0 g ∧ Rg.r1 g = Rg.r1 g ∧ Rg.r2 g = Rg.r2 g ∧ Rg.r3 g = Rg.r3 g ∧ Rg.r4 g = Rg.r4 g ∧ Rg.r5 g = Rg.r5 g ∧ Rg.r6 g = Rg.r6 g ∧ Rg.r7 g = Rg.r7 g ∧ (28 : TypeId) = (28 : Nat) ∧ k = (0 : Nat) + k ∧ ari BinOp.add IntKind.i64 nx (1 : Int) = ari BinOp.add IntKind.i64 nx (1 : Int) ∧ Rg.r0 g = Rg.r0 g ∧ Rg.r1 g = Rg.r1 g ∧ Rg.r2 g = Rg.r2 g ∧ Rg.r3 g = Rg.r3 g ∧ Rg.r4 g = Rg.r4 g ∧ Rg.r5 g = Rg.r5 g ∧ Rg.r6 g = Rg.r6 g ∧ Rg.r7 g = Rg.r7 g ∧ (62 : TypeId) = (62 : TypeId) ∧ row = row ∧ (62 : TypeId) = (62 : Nat) ∧ Array.extract row (0 : Nat) ((0 : Nat) + k * 5) = Array.extract row (0 : Nat) ((0 : Nat) + k * 5) ∧ True)) ∧ (decide (i < (↑n : Int)) = false → true = true)) := by kernel_rfl
theorem go_6 (off n : Nat) (rs : Array Value) (ty : TypeId) (k : Nat) (i nx : Int) (g : Rg) (row : Array Value) (Q : Int → Int → Rg → Array Value → Prop) : (oS true 6 off n rs ty k i nx g row).vc (boolR true) (iN false off n rs ty k 0 i nx g row false Q) =
    ((decide (i < (↑n : Int)) = true → (((0 : Int) ≤ nx ∧ nx < (↑k : Int)) ∧ InsAt row (at5 (0 : Nat) nx) ∧ in8 row (at5 (0 : Nat) nx) ∧ (intAt row (at5 (0 : Nat) nx) = (4 : Int) ∧ (0 : Int) < intAt row (at5 (0 : Nat) nx) ∧ intAt row (at5 (0 : Nat) nx) ≤ (6 : Int)) ∧ True) ∧ ((0 : Nat) + k * 5 ≤ Array.size row ∧ (((0 : Nat) + k) * 6 ≤ (140737488355328 : Nat) ∧ (0 : Nat) + k ≤ (140737488355328 : Nat)) ∧ True) ∧ (((0 : Int) ≤ nx ∧ nx < (↑((0 : Nat) + k) : Int)) ∧ InsAt (Array.extract row (0 : Nat) ((0 : Nat) + k * 5)) (at5 (0 : Nat) nx) ∧ in8 (Array.extract row (0 : Nat) ((0 : Nat) + k * 5)) (at5 (0 : Nat) nx) ∧ (intAt (Array.extract row (0 : Nat) ((0 : Nat) + k * 5)) (at5 (0 : Nat) nx) = (4 : Int) ∧ (0 : Int) < intAt (Array.extract row (0 : Nat) ((0 : Nat) + k * 5)) (at5 (0 : Nat) nx) ∧ intAt (Array.extract row (0 : Nat) ((0 : Nat) + k * 5)) (at5 (0 : Nat) nx) ≤ (6 : Int)) ∧ True) ∧ (((0 : Int) ≤ nx ∧ nx < (↑((0 : Nat) + k) : Int)) ∧ InsAt (Array.extract row (0 : Nat) ((0 : Nat) + k * 5)) (at5 (0 : Nat) nx) ∧ in8 (Array.extract row (0 : Nat) ((0 : Nat) + k * 5)) (at5 (0 : Nat) nx) ∧ (intAt (Array.extract row (0 : Nat) ((0 : Nat) + k * 5)) (at5 (0 : Nat) nx) = (4 : Int) ∧ (0 : Int) < intAt (Array.extract row (0 : Nat) ((0 : Nat) + k * 5)) (at5 (0 : Nat) nx) ∧ intAt (Array.extract row (0 : Nat) ((0 : Nat) + k * 5)) (at5 (0 : Nat) nx) ≤ (6 : Int)) ∧ True) ∧ (((0 : Int) ≤ intAt (Array.extract row (0 : Nat) ((0 : Nat) + k * 5)) (at5 (0 : Nat) nx + 2) ∧ intAt (Array.extract row (0 : Nat) ((0 : Nat) + k * 5)) (at5 (0 : Nat) nx + 2) < (8 : Int)) ∧ True) ∧ ((0 : Int) ≤ intAt (Array.extract row (0 : Nat) ((0 : Nat) + k * 5)) (at5 (0 : Nat) nx + 4) ∧ True) ∧ (decide (intAt (Array.extract row (0 : Nat) ((0 : Nat) + k * 5)) (at5 (0 : Nat) nx + 1) < (8 : Int)) = true → (((0 : Int) ≤ intAt (Array.extract row (0 : Nat) ((0 : Nat) + k * 5)) (at5 (0 : Nat) nx + 1) ∧ intAt (Array.extract row (0 : Nat) ((0 : Nat) + k * 5)) (at5 (0 : Nat) nx + 1) < (8 : Int)) ∧ True) ∧ (((2 : Nat) ≤ (2 : Nat) + Int.toNat (intAt (Array.extract row (0 : Nat) ((0 : Nat) + k * 5)) (at5 (0 : Nat) nx + 1)) * 1 ∧ (2 : Nat) + Int.toNat (intAt (Array.extract row (0 : Nat) ((0 : Nat) + k * 5)) (at5 (0 : Nat) nx + 1)) * 1 < (10 : Nat)) ∧ True) ∧ Q (0 : Int) (ari BinOp.add IntKind.i64 nx (1 : Int)) (Rg.mk (selI ((2 : Nat) + Int.toNat (intAt (Array.extract row (0 : Nat) ((0 : Nat) + k * 5)) (at5 (0 : Nat) nx + 1)) * 1) (2 : Nat) (ari BinOp.shl IntKind.u64 (Rg.at (Rg.mk (Rg.r0 g) (Rg.r1 g) (Rg.r2 g) (Rg.r3 g) (Rg.r4 g) (Rg.r5 g) (Rg.r6 g) (Rg.r7 g)) (Int.toNat (intAt (Array.extract row (0 : Nat) ((0 : Nat) + k * 5)) (at5 (0 : Nat) nx + 2)))) (intAt (Array.extract row (0 : Nat) ((0 : Nat) + k * 5)) (at5 (0 : Nat) nx + 4))) (Rg.r0 g)) (selI ((2 : Nat) + Int.toNat (intAt (Array.extract row (0 : Nat) ((0 : Nat) + k * 5)) (at5 (0 : Nat) nx + 1)) * 1) (3 : Nat) (ari BinOp.shl IntKind.u64 (Rg.at (Rg.mk (Rg.r0 g) (Rg.r1 g) (Rg.r2 g) (Rg.r3 g) (Rg.r4 g) (Rg.r5 g) (Rg.r6 g) (Rg.r7 g)) (Int.toNat (intAt (Array.extract row (0 : Nat) ((0 : Nat) + k * 5)) (at5 (0 : Nat) nx + 2)))) (intAt (Array.extract row (0 : Nat) ((0 : Nat) + k * 5)) (at5 (0 : Nat) nx + 4))) (Rg.r1 g)) (selI ((2 : Nat) + Int.toNat (intAt (Array.extract row (0 : Nat) ((0 : Nat) + k * 5)) (at5 (0 : Nat) nx + 1)) * 1) (4 : Nat) (ari BinOp.shl IntKind.u64 (Rg.at (Rg.mk (Rg.r0 g) (Rg.r1 g) (Rg.r2 g) (Rg.r3 g) (Rg.r4 g) (Rg.r5 g) (Rg.r6 g) (Rg.r7 g)) (Int.toNat (intAt (Array.extract row (0 : Nat) ((0 : Nat) + k * 5)) (at5 (0 : Nat) nx + 2)))) (intAt (Array.extract row (0 : Nat) ((0 : Nat) + k * 5)) (at5 (0 : Nat) nx + 4))) (Rg.r2 g)) (selI ((2 : Nat) + Int.toNat (intAt (Array.extract row (0 : Nat) ((0 : Nat) + k * 5)) (at5 (0 : Nat) nx + 1)) * 1) (5 : Nat) (ari BinOp.shl IntKind.u64 (Rg.at (Rg.mk (Rg.r0 g) (Rg.r1 g) (Rg.r2 g) (Rg.r3 g) (Rg.r4 g) (Rg.r5 g) (Rg.r6 g) (Rg.r7 g)) (Int.toNat (intAt (Array.extract row (0 : Nat) ((0 : Nat) + k * 5)) (at5 (0 : Nat) nx + 2)))) (intAt (Array.extract row (0 : Nat) ((0 : Nat) + k * 5)) (at5 (0 : Nat) nx + 4))) (Rg.r3 g)) (selI ((2 : Nat) + Int.toNat (intAt (Array.extract row (0 : Nat) ((0 : Nat) + k * 5)) (at5 (0 : Nat) nx + 1)) * 1) (6 : Nat) (ari BinOp.shl IntKind.u64 (Rg.at (Rg.mk (Rg.r0 g) (Rg.r1 g) (Rg.r2 g) (Rg.r3 g) (Rg.r4 g) (Rg.r5 g) (Rg.r6 g) (Rg.r7 g)) (Int.toNat (intAt (Array.extract row (0 : Nat) ((0 : Nat) + k * 5)) (at5 (0 : Nat) nx + 2)))) (intAt (Array.extract row (0 : Nat) ((0 : Nat) + k * 5)) (at5 (0 : Nat) nx + 4))) (Rg.r4 g)) (selI ((2 : Nat) + Int.toNat (intAt (Array.extract row (0 : Nat) ((0 : Nat) + k * 5)) (at5 (0 : Nat) nx + 1)) * 1) (7 : Nat) (ari BinOp.shl IntKind.u64 (Rg.at (Rg.mk (Rg.r0 g) (Rg.r1 g) (Rg.r2 g) (Rg.r3 g) (Rg.r4 g) (Rg.r5 g) (Rg.r6 g) (Rg.r7 g)) (Int.toNat (intAt (Array.extract row (0 : Nat) ((0 : Nat) + k * 5)) (at5 (0 : Nat) nx + 2)))) (intAt (Array.extract row (0 : Nat) ((0 : Nat) + k * 5)) (at5 (0 : Nat) nx + 4))) (Rg.r5 g)) (selI ((2 : Nat) + Int.toNat (intAt (Array.extract row (0 : Nat) ((0 : Nat) + k * 5)) (at5 (0 : Nat) nx + 1)) * 1) (8 : Nat) (ari BinOp.shl IntKind.u64 (Rg.at (Rg.mk (Rg.r0 g) (Rg.r1 g) (Rg.r2 g) (Rg.r3 g) (Rg.r4 g) (Rg.r5 g) (Rg.r6 g) (Rg.r7 g)) (Int.toNat (intAt (Array.extract row (0 : Nat) ((0 : Nat) + k * 5)) (at5 (0 : Nat) nx + 2)))) (intAt (Array.extract row (0 : Nat) ((0 : Nat) + k * 5)) (at5 (0 : Nat) nx + 4))) (Rg.r6 g)) (selI ((2 : Nat) + Int.toNat (intAt (Array.extract row (0 : Nat) ((0 : Nat) + k * 5)) (at5 (0 : Nat) nx + 1)) * 1) (9 : Nat) (ari BinOp.shl IntKind.u64 (Rg.at (Rg.mk (Rg.r0 g) (Rg.r1 g) (Rg.r2 g) (Rg.r3 g) (Rg.r4 g) (Rg.r5 g) (Rg.r6 g) (Rg.r7 g)) (Int.toNat (intAt (Array.extract row (0 : Nat) ((0 : Nat) + k * 5)) (at5 (0 : Nat) nx + 2)))) (intAt (Array.extract row (0 : Nat) ((0 : Nat) + k * 5)) (at5 (0 : Nat) nx + 4))) (Rg.r7 g))) (Array.extract row (0 : Nat) ((0 : Nat) + k * 5)) ∧ CallKind.normal = CallKind.normal ∧ TodoOk (ren 1 [(1, 1), (2, 2), (3, 11), (4, 7)]) iTd iTd ∧ off = off ∧ n = n ∧ (↑k : Int) = (↑k : Int) ∧ i = i ∧ (0 : Int) = (0 : Int) ∧ false = false ∧ ty = ty ∧ rs = rs ∧ (28 : TypeId) = (28 : TypeId) ∧ k = k ∧ nx = nx ∧ Rg.r0 g = Rg.r0 g ∧ Rg.r1 g = Rg.r1 g ∧ Rg.r2 g = Rg.r2 g ∧ Rg.r3 g = Rg.r3 g ∧ Rg.r4 g = Rg.r4 g ∧ Rg.r5 g = Rg.r5 g ∧ Rg.r6 g = Rg.r6 g ∧ Rg.r7 g = Rg.r7 g ∧ (28 : TypeId) = (28 : Nat) ∧ k = (0 : Nat) + k ∧ ari BinOp.add IntKind.i64 nx (1 : Int) = ari BinOp.add IntKind.i64 nx (1 : Int) ∧ selI ((2 : Nat) + Int.toNat (intAt (Array.extract row (0 : Nat) ((0 : Nat) + k * 5)) (at5 (0 : Nat) nx + 1)) * 1) (2 : Nat) (ari BinOp.shl IntKind.u64 (Rg.at (Rg.mk (Rg.r0 g) (Rg.r1 g) (Rg.r2 g) (Rg.r3 g) (Rg.r4 g) (Rg.r5 g) (Rg.r6 g) (Rg.r7 g)) (Int.toNat (intAt (Array.extract row (0 : Nat) ((0 : Nat) + k * 5)) (at5 (0 : Nat) nx + 2)))) (intAt (Array.extract row (0 : Nat) ((0 : Nat) + k * 5)) (at5 (0 : Nat) nx + 4))) (Rg.r0 g) = selI ((2 : Nat) + Int.toNat (intAt (Array.extract row (0 : Nat) ((0 : Nat) + k * 5)) (at5 (0 : Nat) nx + 1)) * 1) (2 : Nat) (ari BinOp.shl IntKind.u64 (Rg.at (Rg.mk (Rg.r0 g) (Rg.r1 g) (Rg.r2 g) (Rg.r3 g) (Rg.r4 g) (Rg.r5 g) (Rg.r6 g) (Rg.r7 g)) (Int.toNat (intAt (Array.extract row (0 : Nat) ((0 : Nat) + k * 5)) (at5 (0 : Nat) nx + 2)))) (intAt (Array.extract row (0 : Nat) ((0 : Nat) + k * 5)) (at5 (0 : Nat) nx + 4))) (Rg.r0 g) ∧ selI ((2 : Nat) + Int.toNat (intAt (Array.extract row (0 : Nat) ((0 : Nat) + k * 5)) (at5 (0 : Nat) nx + 1)) * 1) (3 : Nat) (ari BinOp.shl IntKind.u64 (Rg.at (Rg.mk (Rg.r0 g) (Rg.r1 g) (Rg.r2 g) (Rg.r3 g) (Rg.r4 g) (Rg.r5 g) (Rg.r6 g) (Rg.r7 g)) (Int.toNat (intAt (Array.extract row (0 : Nat) ((0 : Nat) + k * 5)) (at5 (0 : Nat) nx + 2)))) (intAt (Array.extract row (0 : Nat) ((0 : Nat) + k * 5)) (at5 (0 : Nat) nx + 4))) (Rg.r1 g) = selI ((2 : Nat) + Int.toNat (intAt (Array.extract row (0 : Nat) ((0 : Nat) + k * 5)) (at5 (0 : Nat) nx + 1)) * 1) (3 : Nat) (ari BinOp.shl IntKind.u64 (Rg.at (Rg.mk (Rg.r0 g) (Rg.r1 g) (Rg.r2 g) (Rg.r3 g) (Rg.r4 g) (Rg.r5 g) (Rg.r6 g) (Rg.r7 g)) (Int.toNat (intAt (Array.extract row (0 : Nat) ((0 : Nat) + k * 5)) (at5 (0 : Nat) nx + 2)))) (intAt (Array.extract row (0 : Nat) ((0 : Nat) + k * 5)) (at5 (0 : Nat) nx + 4))) (Rg.r1 g) ∧ selI ((2 : Nat) + Int.toNat (intAt (Array.extract row (0 : Nat) ((0 : Nat) + k * 5)) (at5 (0 : Nat) nx + 1)) * 1) (4 : Nat) (ari BinOp.shl IntKind.u64 (Rg.at (Rg.mk (Rg.r0 g) (Rg.r1 g) (Rg.r2 g) (Rg.r3 g) (Rg.r4 g) (Rg.r5 g) (Rg.r6 g) (Rg.r7 g)) (Int.toNat (intAt (Array.extract row (0 : Nat) ((0 : Nat) + k * 5)) (at5 (0 : Nat) nx + 2)))) (intAt (Array.extract row (0 : Nat) ((0 : Nat) + k * 5)) (at5 (0 : Nat) nx + 4))) (Rg.r2 g) = selI ((2 : Nat) + Int.toNat (intAt (Array.extract row (0 : Nat) ((0 : Nat) + k * 5)) (at5 (0 : Nat) nx + 1)) * 1) (4 : Nat) (ari BinOp.shl IntKind.u64 (Rg.at (Rg.mk (Rg.r0 g) (Rg.r1 g) (Rg.r2 g) (Rg.r3 g) (Rg.r4 g) (Rg.r5 g) (Rg.r6 g) (Rg.r7 g)) (Int.toNat (intAt (Array.extract row (0 : Nat) ((0 : Nat) + k * 5)) (at5 (0 : Nat) nx + 2)))) (intAt (Array.extract row (0 : Nat) ((0 : Nat) + k * 5)) (at5 (0 : Nat) nx + 4))) (Rg.r2 g) ∧ selI ((2 : Nat) + Int.toNat (intAt (Array.extract row (0 : Nat) ((0 : Nat) + k * 5)) (at5 (0 : Nat) nx + 1)) * 1) (5 : Nat) (ari BinOp.shl IntKind.u64 (Rg.at (Rg.mk (Rg.r0 g) (Rg.r1 g) (Rg.r2 g) (Rg.r3 g) (Rg.r4 g) (Rg.r5 g) (Rg.r6 g) (Rg.r7 g)) (Int.toNat (intAt (Array.extract row (0 : Nat) ((0 : Nat) + k * 5)) (at5 (0 : Nat) nx + 2)))) (intAt (Array.extract row (0 : Nat) ((0 : Nat) + k * 5)) (at5 (0 : Nat) nx + 4))) (Rg.r3 g) = selI ((2 : Nat) + Int.toNat (intAt (Array.extract row (0 : Nat) ((0 : Nat) + k * 5)) (at5 (0 : Nat) nx + 1)) * 1) (5 : Nat) (ari BinOp.shl IntKind.u64 (Rg.at (Rg.mk (Rg.r0 g) (Rg.r1 g) (Rg.r2 g) (Rg.r3 g) (Rg.r4 g) (Rg.r5 g) (Rg.r6 g) (Rg.r7 g)) (Int.toNat (intAt (Array.extract row (0 : Nat) ((0 : Nat) + k * 5)) (at5 (0 : Nat) nx + 2)))) (intAt (Array.extract row (0 : Nat) ((0 : Nat) + k * 5)) (at5 (0 : Nat) nx + 4))) (Rg.r3 g) ∧ selI ((2 : Nat) + Int.toNat (intAt (Array.extract row (0 : Nat) ((0 : Nat) + k * 5)) (at5 (0 : Nat) nx + 1)) * 1) (6 : Nat) (ari BinOp.shl IntKind.u64 (Rg.at (Rg.mk (Rg.r0 g) (Rg.r1 g) (Rg.r2 g) (Rg.r3 g) (Rg.r4 g) (Rg.r5 g) (Rg.r6 g) (Rg.r7 g)) (Int.toNat (intAt (Array.extract row (0 : Nat) ((0 : Nat) + k * 5)) (at5 (0 : Nat) nx + 2)))) (intAt (Array.extract row (0 : Nat) ((0 : Nat) + k * 5)) (at5 (0 : Nat) nx + 4))) (Rg.r4 g) = selI ((2 : Nat) + Int.toNat (intAt (Array.extract row (0 : Nat) ((0 : Nat) + k * 5)) (at5 (0 : Nat) nx + 1)) * 1) (6 : Nat) (ari BinOp.shl IntKind.u64 (Rg.at (Rg.mk (Rg.r0 g) (Rg.r1 g) (Rg.r2 g) (Rg.r3 g) (Rg.r4 g) (Rg.r5 g) (Rg.r6 g) (Rg.r7 g)) (Int.toNat (intAt (Array.extract row (0 : Nat) ((0 : Nat) + k * 5)) (at5 (0 : Nat) nx + 2)))) (intAt (Array.extract row (0 : Nat) ((0 : Nat) + k * 5)) (at5 (0 : Nat) nx + 4))) (Rg.r4 g) ∧ selI ((2 : Nat) + Int.toNat (intAt (Array.extract row (0 : Nat) ((0 : Nat) + k * 5)) (at5 (0 : Nat) nx + 1)) * 1) (7 : Nat) (ari BinOp.shl IntKind.u64 (Rg.at (Rg.mk (Rg.r0 g) (Rg.r1 g) (Rg.r2 g) (Rg.r3 g) (Rg.r4 g) (Rg.r5 g) (Rg.r6 g) (Rg.r7 g)) (Int.toNat (intAt (Array.extract row (0 : Nat) ((0 : Nat) + k * 5)) (at5 (0 : Nat) nx + 2)))) (intAt (Array.extract row (0 : Nat) ((0 : Nat) + k * 5)) (at5 (0 : Nat) nx + 4))) (Rg.r5 g) = selI ((2 : Nat) + Int.toNat (intAt (Array.extract row (0 : Nat) ((0 : Nat) + k * 5)) (at5 (0 : Nat) nx + 1)) * 1) (7 : Nat) (ari BinOp.shl IntKind.u64 (Rg.at (Rg.mk (Rg.r0 g) (Rg.r1 g) (Rg.r2 g) (Rg.r3 g) (Rg.r4 g) (Rg.r5 g) (Rg.r6 g) (Rg.r7 g)) (Int.toNat (intAt (Array.extract row (0 : Nat) ((0 : Nat) + k * 5)) (at5 (0 : Nat) nx + 2)))) (intAt (Array.extract row (0 : Nat) ((0 : Nat) + k * 5)) (at5 (0 : Nat) nx + 4))) (Rg.r5 g) ∧ selI ((2 : Nat) + Int.toNat (intAt (Array.extract row (0 : Nat) ((0 : Nat) + k * 5)) (at5 (0 : Nat) nx + 1)) * 1) (8 : Nat) (ari BinOp.shl IntKind.u64 (Rg.at (Rg.mk (Rg.r0 g) (Rg.r1 g) (Rg.r2 g) (Rg.r3 g) (Rg.r4 g) (Rg.r5 g) (Rg.r6 g) (Rg.r7 g)) (Int.toNat (intAt (Array.extract row (0 : Nat) ((0 : Nat) + k * 5)) (at5 (0 : Nat) nx + 2)))) (intAt (Array.extract row (0 : Nat) ((0 : Nat) + k * 5)) (at5 (0 : Nat) nx + 4))) (Rg.r6 g) = selI ((2 : Nat) + Int.toNat (intAt (Array.extract row (0 : Nat) ((0 : Nat) + k * 5)) (at5 (0 : Nat) nx + 1)) * 1) (8 : Nat) (ari BinOp.shl IntKind.u64 (Rg.at (Rg.mk (Rg.r0 g) (Rg.r1 g) (Rg.r2 g) (Rg.r3 g) (Rg.r4 g) (Rg.r5 g) (Rg.r6 g) (Rg.r7 g)) (Int.toNat (intAt (Array.extract row (0 : Nat) ((0 : Nat) + k * 5)) (at5 (0 : Nat) nx + 2)))) (intAt (Array.extract row (0 : Nat) ((0 : Nat) + k * 5)) (at5 (0 : Nat) nx + 4))) (Rg.r6 g) ∧ selI ((2 : Nat) + Int.toNat (intAt (Array.extract row (0 : Nat) ((0 : Nat) + k * 5)) (at5 (0 : Nat) nx + 1)) * 1) (9 : Nat) (ari BinOp.shl IntKind.u64 (Rg.at (Rg.mk (Rg.r0 g) (Rg.r1 g) (Rg.r2 g) (Rg.r3 g) (Rg.r4 g) (Rg.r5 g) (Rg.r6 g) (Rg.r7 g)) (Int.toNat (intAt (Array.extract row (0 : Nat) ((0 : Nat) + k * 5)) (at5 (0 : Nat) nx + 2)))) (intAt (Array.extract row (0 : Nat) ((0 : Nat) + k * 5)) (at5 (0 : Nat) nx + 4))) (Rg.r7 g) = selI ((2 : Nat) + Int.toNat (intAt (Array.extract row (0 : Nat) ((0 : Nat) + k * 5)) (at5 (0 : Nat) nx + 1)) * 1) (9 : Nat) (ari BinOp.shl IntKind.u64 (Rg.at (Rg.mk (Rg.r0 g) (Rg.r1 g) (Rg.r2 g) (Rg.r3 g) (Rg.r4 g) (Rg.r5 g) (Rg.r6 g) (Rg.r7 g)) (Int.toNat (intAt (Array.extract row (0 : Nat) ((0 : Nat) + k * 5)) (at5 (0 : Nat) nx + 2)))) (intAt (Array.extract row (0 : Nat) ((0 : Nat) + k * 5)) (at5 (0 : Nat) nx + 4))) (Rg.r7 g) ∧ (62 : TypeId) = (62 : TypeId) ∧ row = row ∧ (62 : TypeId) = (62 : Nat) ∧ Array.extract row (0 : Nat) ((0 : Nat) + k * 5) = Array.extract row (0 : Nat) ((0 : Nat) + k * 5) ∧ True) ∧ (decide (intAt (Array.extract row (0 : Nat) ((0 : Nat) + k * 5)) (at5 (0 : Nat) nx + 1) < (8 : Int)) = false → Q (0 : Int) (ari BinOp.add IntKind.i64 nx (1 : Int)) (Rg.mk (Rg.r0 g) (Rg.r1 g) (Rg.r2 g) (Rg.r3 g) (Rg.r4 g) (Rg.r5 g) (Rg.r6 g) (Rg.r7 g)) (Array.extract row (0 : Nat) ((0 : Nat) + k * 5)) ∧ CallKind.normal = CallKind.normal ∧ TodoOk (ren 1 [(1, 1), (2, 2), (3, 11), (4, 7)]) iTd iTd ∧ off = off ∧ n = n ∧ (↑k : Int) = (↑k : Int) ∧ i = i ∧ (0 : Int) = (0 : Int) ∧ false = false ∧ ty = ty ∧ rs = rs ∧ (28 : TypeId) = (28 : TypeId) ∧ k = k ∧ nx = nx ∧ Rg.r0 g = Rg.r0 g ∧ Rg.r1 g = Rg.r1 g ∧ Rg.r2 g = Rg.r2 g ∧ Rg.r3 g = Rg.r3 g ∧ Rg.r4 g = Rg.r4 g ∧ Rg.r5 g = Rg.r5 g ∧ Rg.r6 g = Rg.r6 g ∧ Rg.r7 g = Rg.r7 g ∧ (28 : TypeId) = (28 : Nat) ∧ k = (0 : Nat) + k ∧ ari BinOp.add IntKind.i64 nx (1 : Int) = ari BinOp.add IntKind.i64 nx (1 : Int) ∧ Rg.r0 g = Rg.r0 g ∧ Rg.r1 g = Rg.r1 g ∧ Rg.r2 g = Rg.r2 g ∧ Rg.r3 g = Rg.r3 g ∧ Rg.r4 g = Rg.r4 g ∧ Rg.r5 g = Rg.r5 g ∧ Rg.r6 g = Rg.r6 g ∧ Rg.r7 g = Rg.r7 g ∧ (62 : TypeId) = (62 : TypeId) ∧ row = row ∧ (62 : TypeId) = (62 : Nat) ∧ Array.extract row (0 : Nat) ((0 : Nat) + k * 5) = Array.extract row (0 : Nat) ((0 : Nat) + k * 5) ∧ True)) ∧ (decide (i < (↑n : Int)) = false → true = true)) := by kernel_rfl
theorem go_7 (off n : Nat) (rs : Array Value) (ty : TypeId) (k : Nat) (i nx : Int) (g : Rg) (row : Array Value) (Q : Int → Int → Rg → Array Value → Prop) : (oS true 7 off n rs ty k i nx g row).vc (boolR true) (iN false off n rs ty k 0 i nx g row false Q) =
    ((decide (i < (↑n : Int)) = true → (((0 : Int) ≤ nx ∧ nx < (↑k : Int)) ∧ InsAt row (at5 (0 : Nat) nx) ∧ in8 row (at5 (0 : Nat) nx) ∧ (intAt row (at5 (0 : Nat) nx) = (5 : Int) ∧ (0 : Int) < intAt row (at5 (0 : Nat) nx) ∧ intAt row (at5 (0 : Nat) nx) ≤ (6 : Int)) ∧ True) ∧ ((0 : Nat) + k * 5 ≤ Array.size row ∧ (((0 : Nat) + k) * 6 ≤ (140737488355328 : Nat) ∧ (0 : Nat) + k ≤ (140737488355328 : Nat)) ∧ True) ∧ (((0 : Int) ≤ nx ∧ nx < (↑((0 : Nat) + k) : Int)) ∧ InsAt (Array.extract row (0 : Nat) ((0 : Nat) + k * 5)) (at5 (0 : Nat) nx) ∧ in8 (Array.extract row (0 : Nat) ((0 : Nat) + k * 5)) (at5 (0 : Nat) nx) ∧ (intAt (Array.extract row (0 : Nat) ((0 : Nat) + k * 5)) (at5 (0 : Nat) nx) = (5 : Int) ∧ (0 : Int) < intAt (Array.extract row (0 : Nat) ((0 : Nat) + k * 5)) (at5 (0 : Nat) nx) ∧ intAt (Array.extract row (0 : Nat) ((0 : Nat) + k * 5)) (at5 (0 : Nat) nx) ≤ (6 : Int)) ∧ True) ∧ (((0 : Int) ≤ nx ∧ nx < (↑((0 : Nat) + k) : Int)) ∧ InsAt (Array.extract row (0 : Nat) ((0 : Nat) + k * 5)) (at5 (0 : Nat) nx) ∧ in8 (Array.extract row (0 : Nat) ((0 : Nat) + k * 5)) (at5 (0 : Nat) nx) ∧ (intAt (Array.extract row (0 : Nat) ((0 : Nat) + k * 5)) (at5 (0 : Nat) nx) = (5 : Int) ∧ (0 : Int) < intAt (Array.extract row (0 : Nat) ((0 : Nat) + k * 5)) (at5 (0 : Nat) nx) ∧ intAt (Array.extract row (0 : Nat) ((0 : Nat) + k * 5)) (at5 (0 : Nat) nx) ≤ (6 : Int)) ∧ True) ∧ Q (0 : Int) (IntKind.wrap IntKind.i64 (intAt (Array.extract row (0 : Nat) ((0 : Nat) + k * 5)) (at5 (0 : Nat) nx + 4))) (Rg.mk (Rg.r0 g) (Rg.r1 g) (Rg.r2 g) (Rg.r3 g) (Rg.r4 g) (Rg.r5 g) (Rg.r6 g) (Rg.r7 g)) (Array.extract row (0 : Nat) ((0 : Nat) + k * 5)) ∧ CallKind.normal = CallKind.normal ∧ TodoOk (ren 1 [(1, 1), (2, 2), (3, 11), (4, 7)]) iTd iTd ∧ off = off ∧ n = n ∧ (↑k : Int) = (↑k : Int) ∧ i = i ∧ (0 : Int) = (0 : Int) ∧ false = false ∧ ty = ty ∧ rs = rs ∧ (28 : TypeId) = (28 : TypeId) ∧ k = k ∧ nx = nx ∧ Rg.r0 g = Rg.r0 g ∧ Rg.r1 g = Rg.r1 g ∧ Rg.r2 g = Rg.r2 g ∧ Rg.r3 g = Rg.r3 g ∧ Rg.r4 g = Rg.r4 g ∧ Rg.r5 g = Rg.r5 g ∧ Rg.r6 g = Rg.r6 g ∧ Rg.r7 g = Rg.r7 g ∧ (28 : TypeId) = (28 : Nat) ∧ k = (0 : Nat) + k ∧ IntKind.wrap IntKind.i64 (intAt (Array.extract row (0 : Nat) ((0 : Nat) + k * 5)) (at5 (0 : Nat) nx + 4)) = IntKind.wrap IntKind.i64 (intAt (Array.extract row (0 : Nat) ((0 : Nat) + k * 5)) (at5 (0 : Nat) nx + 4)) ∧ Rg.r0 g = Rg.r0 g ∧ Rg.r1 g = Rg.r1 g ∧ Rg.r2 g = Rg.r2 g ∧ Rg.r3 g = Rg.r3 g ∧ Rg.r4 g = Rg.r4 g ∧ Rg.r5 g = Rg.r5 g ∧ Rg.r6 g = Rg.r6 g ∧ Rg.r7 g = Rg.r7 g ∧ (62 : TypeId) = (62 : TypeId) ∧ row = row ∧ (62 : TypeId) = (62 : Nat) ∧ Array.extract row (0 : Nat) ((0 : Nat) + k * 5) = Array.extract row (0 : Nat) ((0 : Nat) + k * 5) ∧ True) ∧ (decide (i < (↑n : Int)) = false → true = true)) := by kernel_rfl
theorem go_8 (off n : Nat) (rs : Array Value) (ty : TypeId) (k : Nat) (i nx : Int) (g : Rg) (row : Array Value) (Q : Int → Int → Rg → Array Value → Prop) : (oS true 8 off n rs ty k i nx g row).vc (boolR true) (iN false off n rs ty k 0 i nx g row false Q) =
    ((decide (i < (↑n : Int)) = true → (((0 : Int) ≤ nx ∧ nx < (↑k : Int)) ∧ InsAt row (at5 (0 : Nat) nx) ∧ in8 row (at5 (0 : Nat) nx) ∧ (intAt row (at5 (0 : Nat) nx) = (6 : Int) ∧ (0 : Int) < intAt row (at5 (0 : Nat) nx) ∧ intAt row (at5 (0 : Nat) nx) ≤ (6 : Int)) ∧ True) ∧ ((0 : Nat) + k * 5 ≤ Array.size row ∧ (((0 : Nat) + k) * 6 ≤ (140737488355328 : Nat) ∧ (0 : Nat) + k ≤ (140737488355328 : Nat)) ∧ True) ∧ (((0 : Int) ≤ nx ∧ nx < (↑((0 : Nat) + k) : Int)) ∧ InsAt (Array.extract row (0 : Nat) ((0 : Nat) + k * 5)) (at5 (0 : Nat) nx) ∧ in8 (Array.extract row (0 : Nat) ((0 : Nat) + k * 5)) (at5 (0 : Nat) nx) ∧ (intAt (Array.extract row (0 : Nat) ((0 : Nat) + k * 5)) (at5 (0 : Nat) nx) = (6 : Int) ∧ (0 : Int) < intAt (Array.extract row (0 : Nat) ((0 : Nat) + k * 5)) (at5 (0 : Nat) nx) ∧ intAt (Array.extract row (0 : Nat) ((0 : Nat) + k * 5)) (at5 (0 : Nat) nx) ≤ (6 : Int)) ∧ True) ∧ (((0 : Int) ≤ nx ∧ nx < (↑((0 : Nat) + k) : Int)) ∧ InsAt (Array.extract row (0 : Nat) ((0 : Nat) + k * 5)) (at5 (0 : Nat) nx) ∧ in8 (Array.extract row (0 : Nat) ((0 : Nat) + k * 5)) (at5 (0 : Nat) nx) ∧ (intAt (Array.extract row (0 : Nat) ((0 : Nat) + k * 5)) (at5 (0 : Nat) nx) = (6 : Int) ∧ (0 : Int) < intAt (Array.extract row (0 : Nat) ((0 : Nat) + k * 5)) (at5 (0 : Nat) nx) ∧ intAt (Array.extract row (0 : Nat) ((0 : Nat) + k * 5)) (at5 (0 : Nat) nx) ≤ (6 : Int)) ∧ True) ∧ (((0 : Int) ≤ intAt (Array.extract row (0 : Nat) ((0 : Nat) + k * 5)) (at5 (0 : Nat) nx + 1) ∧ intAt (Array.extract row (0 : Nat) ((0 : Nat) + k * 5)) (at5 (0 : Nat) nx + 1) < (8 : Int)) ∧ True) ∧ ((Rg.at (Rg.mk (Rg.r0 g) (Rg.r1 g) (Rg.r2 g) (Rg.r3 g) (Rg.r4 g) (Rg.r5 g) (Rg.r6 g) (Rg.r7 g)) (Int.toNat (intAt (Array.extract row (0 : Nat) ((0 : Nat) + k * 5)) (at5 (0 : Nat) nx + 1))) != (0 : Int)) = true → Q (0 : Int) (IntKind.wrap IntKind.i64 (intAt (Array.extract row (0 : Nat) ((0 : Nat) + k * 5)) (at5 (0 : Nat) nx + 4))) (Rg.mk (Rg.r0 g) (Rg.r1 g) (Rg.r2 g) (Rg.r3 g) (Rg.r4 g) (Rg.r5 g) (Rg.r6 g) (Rg.r7 g)) (Array.extract row (0 : Nat) ((0 : Nat) + k * 5)) ∧ CallKind.normal = CallKind.normal ∧ TodoOk (ren 1 [(1, 1), (2, 2), (3, 11), (4, 7)]) iTd iTd ∧ off = off ∧ n = n ∧ (↑k : Int) = (↑k : Int) ∧ i = i ∧ (0 : Int) = (0 : Int) ∧ false = false ∧ ty = ty ∧ rs = rs ∧ (28 : TypeId) = (28 : TypeId) ∧ k = k ∧ nx = nx ∧ Rg.r0 g = Rg.r0 g ∧ Rg.r1 g = Rg.r1 g ∧ Rg.r2 g = Rg.r2 g ∧ Rg.r3 g = Rg.r3 g ∧ Rg.r4 g = Rg.r4 g ∧ Rg.r5 g = Rg.r5 g ∧ Rg.r6 g = Rg.r6 g ∧ Rg.r7 g = Rg.r7 g ∧ (28 : TypeId) = (28 : Nat) ∧ k = (0 : Nat) + k ∧ IntKind.wrap IntKind.i64 (intAt (Array.extract row (0 : Nat) ((0 : Nat) + k * 5)) (at5 (0 : Nat) nx + 4)) = IntKind.wrap IntKind.i64 (intAt (Array.extract row (0 : Nat) ((0 : Nat) + k * 5)) (at5 (0 : Nat) nx + 4)) ∧ Rg.r0 g = Rg.r0 g ∧ Rg.r1 g = Rg.r1 g ∧ Rg.r2 g = Rg.r2 g ∧ Rg.r3 g = Rg.r3 g ∧ Rg.r4 g = Rg.r4 g ∧ Rg.r5 g = Rg.r5 g ∧ Rg.r6 g = Rg.r6 g ∧ Rg.r7 g = Rg.r7 g ∧ (62 : TypeId) = (62 : TypeId) ∧ row = row ∧ (62 : TypeId) = (62 : Nat) ∧ Array.extract row (0 : Nat) ((0 : Nat) + k * 5) = Array.extract row (0 : Nat) ((0 : Nat) + k * 5) ∧ True) ∧ ((Rg.at (Rg.mk (Rg.r0 g) (Rg.r1 g) (Rg.r2 g) (Rg.r3 g) (Rg.r4 g) (Rg.r5 g) (Rg.r6 g) (Rg.r7 g)) (Int.toNat (intAt (Array.extract row (0 : Nat) ((0 : Nat) + k * 5)) (at5 (0 : Nat) nx + 1))) != (0 : Int)) = false → Q (0 : Int) (ari BinOp.add IntKind.i64 nx (1 : Int)) (Rg.mk (Rg.r0 g) (Rg.r1 g) (Rg.r2 g) (Rg.r3 g) (Rg.r4 g) (Rg.r5 g) (Rg.r6 g) (Rg.r7 g)) (Array.extract row (0 : Nat) ((0 : Nat) + k * 5)) ∧ CallKind.normal = CallKind.normal ∧ TodoOk (ren 1 [(1, 1), (2, 2), (3, 11), (4, 7)]) iTd iTd ∧ off = off ∧ n = n ∧ (↑k : Int) = (↑k : Int) ∧ i = i ∧ (0 : Int) = (0 : Int) ∧ false = false ∧ ty = ty ∧ rs = rs ∧ (28 : TypeId) = (28 : TypeId) ∧ k = k ∧ nx = nx ∧ Rg.r0 g = Rg.r0 g ∧ Rg.r1 g = Rg.r1 g ∧ Rg.r2 g = Rg.r2 g ∧ Rg.r3 g = Rg.r3 g ∧ Rg.r4 g = Rg.r4 g ∧ Rg.r5 g = Rg.r5 g ∧ Rg.r6 g = Rg.r6 g ∧ Rg.r7 g = Rg.r7 g ∧ (28 : TypeId) = (28 : Nat) ∧ k = (0 : Nat) + k ∧ ari BinOp.add IntKind.i64 nx (1 : Int) = ari BinOp.add IntKind.i64 nx (1 : Int) ∧ Rg.r0 g = Rg.r0 g ∧ Rg.r1 g = Rg.r1 g ∧ Rg.r2 g = Rg.r2 g ∧ Rg.r3 g = Rg.r3 g ∧ Rg.r4 g = Rg.r4 g ∧ Rg.r5 g = Rg.r5 g ∧ Rg.r6 g = Rg.r6 g ∧ Rg.r7 g = Rg.r7 g ∧ (62 : TypeId) = (62 : TypeId) ∧ row = row ∧ (62 : TypeId) = (62 : Nat) ∧ Array.extract row (0 : Nat) ((0 : Nat) + k * 5) = Array.extract row (0 : Nat) ((0 : Nat) + k * 5) ∧ True)) ∧ (decide (i < (↑n : Int)) = false → true = true)) := by kernel_rfl
theorem go_i0 (off n : Nat) (rs : Array Value) (ty : TypeId) (k : Nat) (i nx c nx' : Int) (g g' : Rg) (row row' : Array Value) (b : Bool) (Q : Int → Int → Rg → Array Value → Prop) : (iS 0 off n rs ty k i nx c nx' g g' row row' b).vc (boolR true) (iN true off n rs ty k 1 i nx g row b Q) =
    (((Rg.r0 g' != Rg.r0 g) = true → Q (ari BinOp.add IntKind.i64 c (1 : Int)) nx' (Rg.mk (Rg.r0 g') (Rg.r1 g') (Rg.r2 g') (Rg.r3 g') (Rg.r4 g') (Rg.r5 g') (Rg.r6 g') (Rg.r7 g')) row' ∧ CallKind.normal = CallKind.normal ∧ TodoOk (ren 1 [(1, 1), (2, 2), (3, 3), (4, 4)]) iHd iHd ∧ off = off ∧ n = n ∧ (↑k : Int) = (↑k : Int) ∧ i = i ∧ ari BinOp.add IntKind.i64 c (1 : Int) = ari BinOp.add IntKind.i64 c (1 : Int) ∧ b = b ∧ ty = ty ∧ rs = rs ∧ (28 : TypeId) = (28 : TypeId) ∧ k = k ∧ nx = nx ∧ Rg.r0 g = Rg.r0 g ∧ Rg.r1 g = Rg.r1 g ∧ Rg.r2 g = Rg.r2 g ∧ Rg.r3 g = Rg.r3 g ∧ Rg.r4 g = Rg.r4 g ∧ Rg.r5 g = Rg.r5 g ∧ Rg.r6 g = Rg.r6 g ∧ Rg.r7 g = Rg.r7 g ∧ (28 : TypeId) = (28 : TypeId) ∧ k = k ∧ nx' = nx' ∧ Rg.r0 g' = Rg.r0 g' ∧ Rg.r1 g' = Rg.r1 g' ∧ Rg.r2 g' = Rg.r2 g' ∧ Rg.r3 g' = Rg.r3 g' ∧ Rg.r4 g' = Rg.r4 g' ∧ Rg.r5 g' = Rg.r5 g' ∧ Rg.r6 g' = Rg.r6 g' ∧ Rg.r7 g' = Rg.r7 g' ∧ (62 : TypeId) = (62 : TypeId) ∧ row = row ∧ (62 : TypeId) = (62 : TypeId) ∧ row' = row' ∧ True) ∧ ((Rg.r0 g' != Rg.r0 g) = false → Q c nx' (Rg.mk (Rg.r0 g') (Rg.r1 g') (Rg.r2 g') (Rg.r3 g') (Rg.r4 g') (Rg.r5 g') (Rg.r6 g') (Rg.r7 g')) row' ∧ CallKind.normal = CallKind.normal ∧ TodoOk (ren 1 [(1, 1), (2, 2), (3, 3), (4, 4)]) iHd iHd ∧ off = off ∧ n = n ∧ (↑k : Int) = (↑k : Int) ∧ i = i ∧ c = c ∧ b = b ∧ ty = ty ∧ rs = rs ∧ (28 : TypeId) = (28 : TypeId) ∧ k = k ∧ nx = nx ∧ Rg.r0 g = Rg.r0 g ∧ Rg.r1 g = Rg.r1 g ∧ Rg.r2 g = Rg.r2 g ∧ Rg.r3 g = Rg.r3 g ∧ Rg.r4 g = Rg.r4 g ∧ Rg.r5 g = Rg.r5 g ∧ Rg.r6 g = Rg.r6 g ∧ Rg.r7 g = Rg.r7 g ∧ (28 : TypeId) = (28 : TypeId) ∧ k = k ∧ nx' = nx' ∧ Rg.r0 g' = Rg.r0 g' ∧ Rg.r1 g' = Rg.r1 g' ∧ Rg.r2 g' = Rg.r2 g' ∧ Rg.r3 g' = Rg.r3 g' ∧ Rg.r4 g' = Rg.r4 g' ∧ Rg.r5 g' = Rg.r5 g' ∧ Rg.r6 g' = Rg.r6 g' ∧ Rg.r7 g' = Rg.r7 g' ∧ (62 : TypeId) = (62 : TypeId) ∧ row = row ∧ (62 : TypeId) = (62 : TypeId) ∧ row' = row' ∧ True)) := by kernel_rfl
theorem go_i1 (off n : Nat) (rs : Array Value) (ty : TypeId) (k : Nat) (i nx c nx' : Int) (g g' : Rg) (row row' : Array Value) (b : Bool) (Q : Int → Int → Rg → Array Value → Prop) : (iS 1 off n rs ty k i nx c nx' g g' row row' b).vc (boolR true) (iN true off n rs ty k 2 i nx g row b Q) =
    (((Rg.r1 g' != Rg.r1 g) = true → Q (ari BinOp.add IntKind.i64 c (1 : Int)) nx' (Rg.mk (Rg.r0 g') (Rg.r1 g') (Rg.r2 g') (Rg.r3 g') (Rg.r4 g') (Rg.r5 g') (Rg.r6 g') (Rg.r7 g')) row' ∧ CallKind.normal = CallKind.normal ∧ TodoOk (ren 1 [(1, 1), (2, 2), (3, 3), (4, 4)]) iHd iHd ∧ off = off ∧ n = n ∧ (↑k : Int) = (↑k : Int) ∧ i = i ∧ ari BinOp.add IntKind.i64 c (1 : Int) = ari BinOp.add IntKind.i64 c (1 : Int) ∧ b = b ∧ ty = ty ∧ rs = rs ∧ (28 : TypeId) = (28 : TypeId) ∧ k = k ∧ nx = nx ∧ Rg.r0 g = Rg.r0 g ∧ Rg.r1 g = Rg.r1 g ∧ Rg.r2 g = Rg.r2 g ∧ Rg.r3 g = Rg.r3 g ∧ Rg.r4 g = Rg.r4 g ∧ Rg.r5 g = Rg.r5 g ∧ Rg.r6 g = Rg.r6 g ∧ Rg.r7 g = Rg.r7 g ∧ (28 : TypeId) = (28 : TypeId) ∧ k = k ∧ nx' = nx' ∧ Rg.r0 g' = Rg.r0 g' ∧ Rg.r1 g' = Rg.r1 g' ∧ Rg.r2 g' = Rg.r2 g' ∧ Rg.r3 g' = Rg.r3 g' ∧ Rg.r4 g' = Rg.r4 g' ∧ Rg.r5 g' = Rg.r5 g' ∧ Rg.r6 g' = Rg.r6 g' ∧ Rg.r7 g' = Rg.r7 g' ∧ (62 : TypeId) = (62 : TypeId) ∧ row = row ∧ (62 : TypeId) = (62 : TypeId) ∧ row' = row' ∧ True) ∧ ((Rg.r1 g' != Rg.r1 g) = false → Q c nx' (Rg.mk (Rg.r0 g') (Rg.r1 g') (Rg.r2 g') (Rg.r3 g') (Rg.r4 g') (Rg.r5 g') (Rg.r6 g') (Rg.r7 g')) row' ∧ CallKind.normal = CallKind.normal ∧ TodoOk (ren 1 [(1, 1), (2, 2), (3, 3), (4, 4)]) iHd iHd ∧ off = off ∧ n = n ∧ (↑k : Int) = (↑k : Int) ∧ i = i ∧ c = c ∧ b = b ∧ ty = ty ∧ rs = rs ∧ (28 : TypeId) = (28 : TypeId) ∧ k = k ∧ nx = nx ∧ Rg.r0 g = Rg.r0 g ∧ Rg.r1 g = Rg.r1 g ∧ Rg.r2 g = Rg.r2 g ∧ Rg.r3 g = Rg.r3 g ∧ Rg.r4 g = Rg.r4 g ∧ Rg.r5 g = Rg.r5 g ∧ Rg.r6 g = Rg.r6 g ∧ Rg.r7 g = Rg.r7 g ∧ (28 : TypeId) = (28 : TypeId) ∧ k = k ∧ nx' = nx' ∧ Rg.r0 g' = Rg.r0 g' ∧ Rg.r1 g' = Rg.r1 g' ∧ Rg.r2 g' = Rg.r2 g' ∧ Rg.r3 g' = Rg.r3 g' ∧ Rg.r4 g' = Rg.r4 g' ∧ Rg.r5 g' = Rg.r5 g' ∧ Rg.r6 g' = Rg.r6 g' ∧ Rg.r7 g' = Rg.r7 g' ∧ (62 : TypeId) = (62 : TypeId) ∧ row = row ∧ (62 : TypeId) = (62 : TypeId) ∧ row' = row' ∧ True)) := by kernel_rfl
theorem go_i2 (off n : Nat) (rs : Array Value) (ty : TypeId) (k : Nat) (i nx c nx' : Int) (g g' : Rg) (row row' : Array Value) (b : Bool) (Q : Int → Int → Rg → Array Value → Prop) : (iS 2 off n rs ty k i nx c nx' g g' row row' b).vc (boolR true) (iN true off n rs ty k 3 i nx g row b Q) =
    (((Rg.r2 g' != Rg.r2 g) = true → Q (ari BinOp.add IntKind.i64 c (1 : Int)) nx' (Rg.mk (Rg.r0 g') (Rg.r1 g') (Rg.r2 g') (Rg.r3 g') (Rg.r4 g') (Rg.r5 g') (Rg.r6 g') (Rg.r7 g')) row' ∧ CallKind.normal = CallKind.normal ∧ TodoOk (ren 1 [(1, 1), (2, 2), (3, 3), (4, 4)]) iHd iHd ∧ off = off ∧ n = n ∧ (↑k : Int) = (↑k : Int) ∧ i = i ∧ ari BinOp.add IntKind.i64 c (1 : Int) = ari BinOp.add IntKind.i64 c (1 : Int) ∧ b = b ∧ ty = ty ∧ rs = rs ∧ (28 : TypeId) = (28 : TypeId) ∧ k = k ∧ nx = nx ∧ Rg.r0 g = Rg.r0 g ∧ Rg.r1 g = Rg.r1 g ∧ Rg.r2 g = Rg.r2 g ∧ Rg.r3 g = Rg.r3 g ∧ Rg.r4 g = Rg.r4 g ∧ Rg.r5 g = Rg.r5 g ∧ Rg.r6 g = Rg.r6 g ∧ Rg.r7 g = Rg.r7 g ∧ (28 : TypeId) = (28 : TypeId) ∧ k = k ∧ nx' = nx' ∧ Rg.r0 g' = Rg.r0 g' ∧ Rg.r1 g' = Rg.r1 g' ∧ Rg.r2 g' = Rg.r2 g' ∧ Rg.r3 g' = Rg.r3 g' ∧ Rg.r4 g' = Rg.r4 g' ∧ Rg.r5 g' = Rg.r5 g' ∧ Rg.r6 g' = Rg.r6 g' ∧ Rg.r7 g' = Rg.r7 g' ∧ (62 : TypeId) = (62 : TypeId) ∧ row = row ∧ (62 : TypeId) = (62 : TypeId) ∧ row' = row' ∧ True) ∧ ((Rg.r2 g' != Rg.r2 g) = false → Q c nx' (Rg.mk (Rg.r0 g') (Rg.r1 g') (Rg.r2 g') (Rg.r3 g') (Rg.r4 g') (Rg.r5 g') (Rg.r6 g') (Rg.r7 g')) row' ∧ CallKind.normal = CallKind.normal ∧ TodoOk (ren 1 [(1, 1), (2, 2), (3, 3), (4, 4)]) iHd iHd ∧ off = off ∧ n = n ∧ (↑k : Int) = (↑k : Int) ∧ i = i ∧ c = c ∧ b = b ∧ ty = ty ∧ rs = rs ∧ (28 : TypeId) = (28 : TypeId) ∧ k = k ∧ nx = nx ∧ Rg.r0 g = Rg.r0 g ∧ Rg.r1 g = Rg.r1 g ∧ Rg.r2 g = Rg.r2 g ∧ Rg.r3 g = Rg.r3 g ∧ Rg.r4 g = Rg.r4 g ∧ Rg.r5 g = Rg.r5 g ∧ Rg.r6 g = Rg.r6 g ∧ Rg.r7 g = Rg.r7 g ∧ (28 : TypeId) = (28 : TypeId) ∧ k = k ∧ nx' = nx' ∧ Rg.r0 g' = Rg.r0 g' ∧ Rg.r1 g' = Rg.r1 g' ∧ Rg.r2 g' = Rg.r2 g' ∧ Rg.r3 g' = Rg.r3 g' ∧ Rg.r4 g' = Rg.r4 g' ∧ Rg.r5 g' = Rg.r5 g' ∧ Rg.r6 g' = Rg.r6 g' ∧ Rg.r7 g' = Rg.r7 g' ∧ (62 : TypeId) = (62 : TypeId) ∧ row = row ∧ (62 : TypeId) = (62 : TypeId) ∧ row' = row' ∧ True)) := by kernel_rfl
theorem go_i3 (off n : Nat) (rs : Array Value) (ty : TypeId) (k : Nat) (i nx c nx' : Int) (g g' : Rg) (row row' : Array Value) (b : Bool) (Q : Int → Int → Rg → Array Value → Prop) : (iS 3 off n rs ty k i nx c nx' g g' row row' b).vc (boolR true) (iN true off n rs ty k 4 i nx g row b Q) =
    (((Rg.r3 g' != Rg.r3 g) = true → Q (ari BinOp.add IntKind.i64 c (1 : Int)) nx' (Rg.mk (Rg.r0 g') (Rg.r1 g') (Rg.r2 g') (Rg.r3 g') (Rg.r4 g') (Rg.r5 g') (Rg.r6 g') (Rg.r7 g')) row' ∧ CallKind.normal = CallKind.normal ∧ TodoOk (ren 1 [(1, 1), (2, 2), (3, 3), (4, 4)]) iHd iHd ∧ off = off ∧ n = n ∧ (↑k : Int) = (↑k : Int) ∧ i = i ∧ ari BinOp.add IntKind.i64 c (1 : Int) = ari BinOp.add IntKind.i64 c (1 : Int) ∧ b = b ∧ ty = ty ∧ rs = rs ∧ (28 : TypeId) = (28 : TypeId) ∧ k = k ∧ nx = nx ∧ Rg.r0 g = Rg.r0 g ∧ Rg.r1 g = Rg.r1 g ∧ Rg.r2 g = Rg.r2 g ∧ Rg.r3 g = Rg.r3 g ∧ Rg.r4 g = Rg.r4 g ∧ Rg.r5 g = Rg.r5 g ∧ Rg.r6 g = Rg.r6 g ∧ Rg.r7 g = Rg.r7 g ∧ (28 : TypeId) = (28 : TypeId) ∧ k = k ∧ nx' = nx' ∧ Rg.r0 g' = Rg.r0 g' ∧ Rg.r1 g' = Rg.r1 g' ∧ Rg.r2 g' = Rg.r2 g' ∧ Rg.r3 g' = Rg.r3 g' ∧ Rg.r4 g' = Rg.r4 g' ∧ Rg.r5 g' = Rg.r5 g' ∧ Rg.r6 g' = Rg.r6 g' ∧ Rg.r7 g' = Rg.r7 g' ∧ (62 : TypeId) = (62 : TypeId) ∧ row = row ∧ (62 : TypeId) = (62 : TypeId) ∧ row' = row' ∧ True) ∧ ((Rg.r3 g' != Rg.r3 g) = false → Q c nx' (Rg.mk (Rg.r0 g') (Rg.r1 g') (Rg.r2 g') (Rg.r3 g') (Rg.r4 g') (Rg.r5 g') (Rg.r6 g') (Rg.r7 g')) row' ∧ CallKind.normal = CallKind.normal ∧ TodoOk (ren 1 [(1, 1), (2, 2), (3, 3), (4, 4)]) iHd iHd ∧ off = off ∧ n = n ∧ (↑k : Int) = (↑k : Int) ∧ i = i ∧ c = c ∧ b = b ∧ ty = ty ∧ rs = rs ∧ (28 : TypeId) = (28 : TypeId) ∧ k = k ∧ nx = nx ∧ Rg.r0 g = Rg.r0 g ∧ Rg.r1 g = Rg.r1 g ∧ Rg.r2 g = Rg.r2 g ∧ Rg.r3 g = Rg.r3 g ∧ Rg.r4 g = Rg.r4 g ∧ Rg.r5 g = Rg.r5 g ∧ Rg.r6 g = Rg.r6 g ∧ Rg.r7 g = Rg.r7 g ∧ (28 : TypeId) = (28 : TypeId) ∧ k = k ∧ nx' = nx' ∧ Rg.r0 g' = Rg.r0 g' ∧ Rg.r1 g' = Rg.r1 g' ∧ Rg.r2 g' = Rg.r2 g' ∧ Rg.r3 g' = Rg.r3 g' ∧ Rg.r4 g' = Rg.r4 g' ∧ Rg.r5 g' = Rg.r5 g' ∧ Rg.r6 g' = Rg.r6 g' ∧ Rg.r7 g' = Rg.r7 g' ∧ (62 : TypeId) = (62 : TypeId) ∧ row = row ∧ (62 : TypeId) = (62 : TypeId) ∧ row' = row' ∧ True)) := by kernel_rfl
theorem go_i4 (off n : Nat) (rs : Array Value) (ty : TypeId) (k : Nat) (i nx c nx' : Int) (g g' : Rg) (row row' : Array Value) (b : Bool) (Q : Int → Int → Rg → Array Value → Prop) : (iS 4 off n rs ty k i nx c nx' g g' row row' b).vc (boolR true) (iN true off n rs ty k 5 i nx g row b Q) =
    (((Rg.r4 g' != Rg.r4 g) = true → Q (ari BinOp.add IntKind.i64 c (1 : Int)) nx' (Rg.mk (Rg.r0 g') (Rg.r1 g') (Rg.r2 g') (Rg.r3 g') (Rg.r4 g') (Rg.r5 g') (Rg.r6 g') (Rg.r7 g')) row' ∧ CallKind.normal = CallKind.normal ∧ TodoOk (ren 1 [(1, 1), (2, 2), (3, 3), (4, 4)]) iHd iHd ∧ off = off ∧ n = n ∧ (↑k : Int) = (↑k : Int) ∧ i = i ∧ ari BinOp.add IntKind.i64 c (1 : Int) = ari BinOp.add IntKind.i64 c (1 : Int) ∧ b = b ∧ ty = ty ∧ rs = rs ∧ (28 : TypeId) = (28 : TypeId) ∧ k = k ∧ nx = nx ∧ Rg.r0 g = Rg.r0 g ∧ Rg.r1 g = Rg.r1 g ∧ Rg.r2 g = Rg.r2 g ∧ Rg.r3 g = Rg.r3 g ∧ Rg.r4 g = Rg.r4 g ∧ Rg.r5 g = Rg.r5 g ∧ Rg.r6 g = Rg.r6 g ∧ Rg.r7 g = Rg.r7 g ∧ (28 : TypeId) = (28 : TypeId) ∧ k = k ∧ nx' = nx' ∧ Rg.r0 g' = Rg.r0 g' ∧ Rg.r1 g' = Rg.r1 g' ∧ Rg.r2 g' = Rg.r2 g' ∧ Rg.r3 g' = Rg.r3 g' ∧ Rg.r4 g' = Rg.r4 g' ∧ Rg.r5 g' = Rg.r5 g' ∧ Rg.r6 g' = Rg.r6 g' ∧ Rg.r7 g' = Rg.r7 g' ∧ (62 : TypeId) = (62 : TypeId) ∧ row = row ∧ (62 : TypeId) = (62 : TypeId) ∧ row' = row' ∧ True) ∧ ((Rg.r4 g' != Rg.r4 g) = false → Q c nx' (Rg.mk (Rg.r0 g') (Rg.r1 g') (Rg.r2 g') (Rg.r3 g') (Rg.r4 g') (Rg.r5 g') (Rg.r6 g') (Rg.r7 g')) row' ∧ CallKind.normal = CallKind.normal ∧ TodoOk (ren 1 [(1, 1), (2, 2), (3, 3), (4, 4)]) iHd iHd ∧ off = off ∧ n = n ∧ (↑k : Int) = (↑k : Int) ∧ i = i ∧ c = c ∧ b = b ∧ ty = ty ∧ rs = rs ∧ (28 : TypeId) = (28 : TypeId) ∧ k = k ∧ nx = nx ∧ Rg.r0 g = Rg.r0 g ∧ Rg.r1 g = Rg.r1 g ∧ Rg.r2 g = Rg.r2 g ∧ Rg.r3 g = Rg.r3 g ∧ Rg.r4 g = Rg.r4 g ∧ Rg.r5 g = Rg.r5 g ∧ Rg.r6 g = Rg.r6 g ∧ Rg.r7 g = Rg.r7 g ∧ (28 : TypeId) = (28 : TypeId) ∧ k = k ∧ nx' = nx' ∧ Rg.r0 g' = Rg.r0 g' ∧ Rg.r1 g' = Rg.r1 g' ∧ Rg.r2 g' = Rg.r2 g' ∧ Rg.r3 g' = Rg.r3 g' ∧ Rg.r4 g' = Rg.r4 g' ∧ Rg.r5 g' = Rg.r5 g' ∧ Rg.r6 g' = Rg.r6 g' ∧ Rg.r7 g' = Rg.r7 g' ∧ (62 : TypeId) = (62 : TypeId) ∧ row = row ∧ (62 : TypeId) = (62 : TypeId) ∧ row' = row' ∧ True)) := by kernel_rfl
theorem go_i5 (off n : Nat) (rs : Array Value) (ty : TypeId) (k : Nat) (i nx c nx' : Int) (g g' : Rg) (row row' : Array Value) (b : Bool) (Q : Int → Int → Rg → Array Value → Prop) : (iS 5 off n rs ty k i nx c nx' g g' row row' b).vc (boolR true) (iN true off n rs ty k 6 i nx g row b Q) =
    (((Rg.r5 g' != Rg.r5 g) = true → Q (ari BinOp.add IntKind.i64 c (1 : Int)) nx' (Rg.mk (Rg.r0 g') (Rg.r1 g') (Rg.r2 g') (Rg.r3 g') (Rg.r4 g') (Rg.r5 g') (Rg.r6 g') (Rg.r7 g')) row' ∧ CallKind.normal = CallKind.normal ∧ TodoOk (ren 1 [(1, 1), (2, 2), (3, 3), (4, 4)]) iHd iHd ∧ off = off ∧ n = n ∧ (↑k : Int) = (↑k : Int) ∧ i = i ∧ ari BinOp.add IntKind.i64 c (1 : Int) = ari BinOp.add IntKind.i64 c (1 : Int) ∧ b = b ∧ ty = ty ∧ rs = rs ∧ (28 : TypeId) = (28 : TypeId) ∧ k = k ∧ nx = nx ∧ Rg.r0 g = Rg.r0 g ∧ Rg.r1 g = Rg.r1 g ∧ Rg.r2 g = Rg.r2 g ∧ Rg.r3 g = Rg.r3 g ∧ Rg.r4 g = Rg.r4 g ∧ Rg.r5 g = Rg.r5 g ∧ Rg.r6 g = Rg.r6 g ∧ Rg.r7 g = Rg.r7 g ∧ (28 : TypeId) = (28 : TypeId) ∧ k = k ∧ nx' = nx' ∧ Rg.r0 g' = Rg.r0 g' ∧ Rg.r1 g' = Rg.r1 g' ∧ Rg.r2 g' = Rg.r2 g' ∧ Rg.r3 g' = Rg.r3 g' ∧ Rg.r4 g' = Rg.r4 g' ∧ Rg.r5 g' = Rg.r5 g' ∧ Rg.r6 g' = Rg.r6 g' ∧ Rg.r7 g' = Rg.r7 g' ∧ (62 : TypeId) = (62 : TypeId) ∧ row = row ∧ (62 : TypeId) = (62 : TypeId) ∧ row' = row' ∧ True) ∧ ((Rg.r5 g' != Rg.r5 g) = false → Q c nx' (Rg.mk (Rg.r0 g') (Rg.r1 g') (Rg.r2 g') (Rg.r3 g') (Rg.r4 g') (Rg.r5 g') (Rg.r6 g') (Rg.r7 g')) row' ∧ CallKind.normal = CallKind.normal ∧ TodoOk (ren 1 [(1, 1), (2, 2), (3, 3), (4, 4)]) iHd iHd ∧ off = off ∧ n = n ∧ (↑k : Int) = (↑k : Int) ∧ i = i ∧ c = c ∧ b = b ∧ ty = ty ∧ rs = rs ∧ (28 : TypeId) = (28 : TypeId) ∧ k = k ∧ nx = nx ∧ Rg.r0 g = Rg.r0 g ∧ Rg.r1 g = Rg.r1 g ∧ Rg.r2 g = Rg.r2 g ∧ Rg.r3 g = Rg.r3 g ∧ Rg.r4 g = Rg.r4 g ∧ Rg.r5 g = Rg.r5 g ∧ Rg.r6 g = Rg.r6 g ∧ Rg.r7 g = Rg.r7 g ∧ (28 : TypeId) = (28 : TypeId) ∧ k = k ∧ nx' = nx' ∧ Rg.r0 g' = Rg.r0 g' ∧ Rg.r1 g' = Rg.r1 g' ∧ Rg.r2 g' = Rg.r2 g' ∧ Rg.r3 g' = Rg.r3 g' ∧ Rg.r4 g' = Rg.r4 g' ∧ Rg.r5 g' = Rg.r5 g' ∧ Rg.r6 g' = Rg.r6 g' ∧ Rg.r7 g' = Rg.r7 g' ∧ (62 : TypeId) = (62 : TypeId) ∧ row = row ∧ (62 : TypeId) = (62 : TypeId) ∧ row' = row' ∧ True)) := by kernel_rfl
theorem go_i6 (off n : Nat) (rs : Array Value) (ty : TypeId) (k : Nat) (i nx c nx' : Int) (g g' : Rg) (row row' : Array Value) (b : Bool) (Q : Int → Int → Rg → Array Value → Prop) : (iS 6 off n rs ty k i nx c nx' g g' row row' b).vc (boolR true) (iN true off n rs ty k 7 i nx g row b Q) =
    (((Rg.r6 g' != Rg.r6 g) = true → Q (ari BinOp.add IntKind.i64 c (1 : Int)) nx' (Rg.mk (Rg.r0 g') (Rg.r1 g') (Rg.r2 g') (Rg.r3 g') (Rg.r4 g') (Rg.r5 g') (Rg.r6 g') (Rg.r7 g')) row' ∧ CallKind.normal = CallKind.normal ∧ TodoOk (ren 1 [(1, 1), (2, 2), (3, 3), (4, 4)]) iHd iHd ∧ off = off ∧ n = n ∧ (↑k : Int) = (↑k : Int) ∧ i = i ∧ ari BinOp.add IntKind.i64 c (1 : Int) = ari BinOp.add IntKind.i64 c (1 : Int) ∧ b = b ∧ ty = ty ∧ rs = rs ∧ (28 : TypeId) = (28 : TypeId) ∧ k = k ∧ nx = nx ∧ Rg.r0 g = Rg.r0 g ∧ Rg.r1 g = Rg.r1 g ∧ Rg.r2 g = Rg.r2 g ∧ Rg.r3 g = Rg.r3 g ∧ Rg.r4 g = Rg.r4 g ∧ Rg.r5 g = Rg.r5 g ∧ Rg.r6 g = Rg.r6 g ∧ Rg.r7 g = Rg.r7 g ∧ (28 : TypeId) = (28 : TypeId) ∧ k = k ∧ nx' = nx' ∧ Rg.r0 g' = Rg.r0 g' ∧ Rg.r1 g' = Rg.r1 g' ∧ Rg.r2 g' = Rg.r2 g' ∧ Rg.r3 g' = Rg.r3 g' ∧ Rg.r4 g' = Rg.r4 g' ∧ Rg.r5 g' = Rg.r5 g' ∧ Rg.r6 g' = Rg.r6 g' ∧ Rg.r7 g' = Rg.r7 g' ∧ (62 : TypeId) = (62 : TypeId) ∧ row = row ∧ (62 : TypeId) = (62 : TypeId) ∧ row' = row' ∧ True) ∧ ((Rg.r6 g' != Rg.r6 g) = false → Q c nx' (Rg.mk (Rg.r0 g') (Rg.r1 g') (Rg.r2 g') (Rg.r3 g') (Rg.r4 g') (Rg.r5 g') (Rg.r6 g') (Rg.r7 g')) row' ∧ CallKind.normal = CallKind.normal ∧ TodoOk (ren 1 [(1, 1), (2, 2), (3, 3), (4, 4)]) iHd iHd ∧ off = off ∧ n = n ∧ (↑k : Int) = (↑k : Int) ∧ i = i ∧ c = c ∧ b = b ∧ ty = ty ∧ rs = rs ∧ (28 : TypeId) = (28 : TypeId) ∧ k = k ∧ nx = nx ∧ Rg.r0 g = Rg.r0 g ∧ Rg.r1 g = Rg.r1 g ∧ Rg.r2 g = Rg.r2 g ∧ Rg.r3 g = Rg.r3 g ∧ Rg.r4 g = Rg.r4 g ∧ Rg.r5 g = Rg.r5 g ∧ Rg.r6 g = Rg.r6 g ∧ Rg.r7 g = Rg.r7 g ∧ (28 : TypeId) = (28 : TypeId) ∧ k = k ∧ nx' = nx' ∧ Rg.r0 g' = Rg.r0 g' ∧ Rg.r1 g' = Rg.r1 g' ∧ Rg.r2 g' = Rg.r2 g' ∧ Rg.r3 g' = Rg.r3 g' ∧ Rg.r4 g' = Rg.r4 g' ∧ Rg.r5 g' = Rg.r5 g' ∧ Rg.r6 g' = Rg.r6 g' ∧ Rg.r7 g' = Rg.r7 g' ∧ (62 : TypeId) = (62 : TypeId) ∧ row = row ∧ (62 : TypeId) = (62 : TypeId) ∧ row' = row' ∧ True)) := by kernel_rfl
theorem go_i7 (off n : Nat) (rs : Array Value) (ty : TypeId) (k : Nat) (i nx c nx' : Int) (g g' : Rg) (row row' : Array Value) (b : Bool) (Q : Int → Int → Rg → Array Value → Prop) : (iS 7 off n rs ty k i nx c nx' g g' row row' b).vc (boolR true) (iN true off n rs ty k 8 i nx g row b Q) =
    (((Rg.r7 g' != Rg.r7 g) = true → Q (ari BinOp.add IntKind.i64 c (1 : Int)) nx' (Rg.mk (Rg.r0 g') (Rg.r1 g') (Rg.r2 g') (Rg.r3 g') (Rg.r4 g') (Rg.r5 g') (Rg.r6 g') (Rg.r7 g')) row' ∧ CallKind.normal = CallKind.normal ∧ TodoOk (ren 1 [(1, 1), (2, 2), (3, 3), (4, 4)]) iHd iHd ∧ off = off ∧ n = n ∧ (↑k : Int) = (↑k : Int) ∧ i = i ∧ ari BinOp.add IntKind.i64 c (1 : Int) = ari BinOp.add IntKind.i64 c (1 : Int) ∧ b = b ∧ ty = ty ∧ rs = rs ∧ (28 : TypeId) = (28 : TypeId) ∧ k = k ∧ nx = nx ∧ Rg.r0 g = Rg.r0 g ∧ Rg.r1 g = Rg.r1 g ∧ Rg.r2 g = Rg.r2 g ∧ Rg.r3 g = Rg.r3 g ∧ Rg.r4 g = Rg.r4 g ∧ Rg.r5 g = Rg.r5 g ∧ Rg.r6 g = Rg.r6 g ∧ Rg.r7 g = Rg.r7 g ∧ (28 : TypeId) = (28 : TypeId) ∧ k = k ∧ nx' = nx' ∧ Rg.r0 g' = Rg.r0 g' ∧ Rg.r1 g' = Rg.r1 g' ∧ Rg.r2 g' = Rg.r2 g' ∧ Rg.r3 g' = Rg.r3 g' ∧ Rg.r4 g' = Rg.r4 g' ∧ Rg.r5 g' = Rg.r5 g' ∧ Rg.r6 g' = Rg.r6 g' ∧ Rg.r7 g' = Rg.r7 g' ∧ (62 : TypeId) = (62 : TypeId) ∧ row = row ∧ (62 : TypeId) = (62 : TypeId) ∧ row' = row' ∧ True) ∧ ((Rg.r7 g' != Rg.r7 g) = false → Q c nx' (Rg.mk (Rg.r0 g') (Rg.r1 g') (Rg.r2 g') (Rg.r3 g') (Rg.r4 g') (Rg.r5 g') (Rg.r6 g') (Rg.r7 g')) row' ∧ CallKind.normal = CallKind.normal ∧ TodoOk (ren 1 [(1, 1), (2, 2), (3, 3), (4, 4)]) iHd iHd ∧ off = off ∧ n = n ∧ (↑k : Int) = (↑k : Int) ∧ i = i ∧ c = c ∧ b = b ∧ ty = ty ∧ rs = rs ∧ (28 : TypeId) = (28 : TypeId) ∧ k = k ∧ nx = nx ∧ Rg.r0 g = Rg.r0 g ∧ Rg.r1 g = Rg.r1 g ∧ Rg.r2 g = Rg.r2 g ∧ Rg.r3 g = Rg.r3 g ∧ Rg.r4 g = Rg.r4 g ∧ Rg.r5 g = Rg.r5 g ∧ Rg.r6 g = Rg.r6 g ∧ Rg.r7 g = Rg.r7 g ∧ (28 : TypeId) = (28 : TypeId) ∧ k = k ∧ nx' = nx' ∧ Rg.r0 g' = Rg.r0 g' ∧ Rg.r1 g' = Rg.r1 g' ∧ Rg.r2 g' = Rg.r2 g' ∧ Rg.r3 g' = Rg.r3 g' ∧ Rg.r4 g' = Rg.r4 g' ∧ Rg.r5 g' = Rg.r5 g' ∧ Rg.r6 g' = Rg.r6 g' ∧ Rg.r7 g' = Rg.r7 g' ∧ (62 : TypeId) = (62 : TypeId) ∧ row = row ∧ (62 : TypeId) = (62 : TypeId) ∧ row' = row' ∧ True)) := by kernel_rfl
theorem go_e (off n : Nat) (rs : Array Value) (ty : TypeId) (k : Nat) (i nx c nx' : Int) (g g' : Rg) (row row' : Array Value) (b : Bool) (Q : Int → Int → Rg → Array Value → Prop) : (iS 8 off n rs ty k i nx c nx' g g' row row' b).vc (boolR true) (oN true off n rs ty k Q) =
    (((decide (nx' < (0 : Int)) == false) = true → ((decide (nx' > (↑k : Int)) == false) = true → ((((↑k : Int) != (↑k : Int)) == false) = true → (((!b) == true) = true → ((decide (c > (1 : Int)) == false) = true → ((decide (c > (3 : Int)) == false) = true → ((b == true) = true → ((decide (nx < (↑k : Int)) == true) = true → (((0 : Int) ≤ i ∧ i < (↑n : Int)) ∧ True) ∧ (IsInt IntKind.i64 rs (off + Int.toNat i * 3) ∧ True) ∧ (((Rg.r7 g' != IntKind.wrap IntKind.u64 (intAt rs (off + Int.toNat i * 3))) == false) = true → ((nx' != ari BinOp.add IntKind.i64 nx (1 : Int)) = true → false = true) ∧ ((nx' != ari BinOp.add IntKind.i64 nx (1 : Int)) = false → Q (ari BinOp.add IntKind.i64 i (1 : Int)) nx' (Rg.mk (Rg.r0 g') (Rg.r1 g') (Rg.r2 g') (Rg.r3 g') (Rg.r4 g') (Rg.r5 g') (Rg.r6 g') (Rg.r7 g')) row' ∧ CallKind.normal = CallKind.normal ∧ TodoOk (ren 1 [(1, 1), (2, 4)]) oHd oHd ∧ off = off ∧ n = n ∧ (↑k : Int) = (↑k : Int) ∧ ari BinOp.add IntKind.i64 i (1 : Int) = ari BinOp.add IntKind.i64 i (1 : Int) ∧ ty = ty ∧ rs = rs ∧ (28 : TypeId) = (28 : TypeId) ∧ k = k ∧ nx' = nx' ∧ Rg.r0 g' = Rg.r0 g' ∧ Rg.r1 g' = Rg.r1 g' ∧ Rg.r2 g' = Rg.r2 g' ∧ Rg.r3 g' = Rg.r3 g' ∧ Rg.r4 g' = Rg.r4 g' ∧ Rg.r5 g' = Rg.r5 g' ∧ Rg.r6 g' = Rg.r6 g' ∧ Rg.r7 g' = Rg.r7 g' ∧ (62 : TypeId) = (62 : TypeId) ∧ row' = row' ∧ True)) ∧ (((Rg.r7 g' != IntKind.wrap IntKind.u64 (intAt rs (off + Int.toNat i * 3))) == false) = false → false = true)) ∧ ((decide (nx < (↑k : Int)) == true) = false → Q (ari BinOp.add IntKind.i64 i (1 : Int)) nx' (Rg.mk (Rg.r0 g') (Rg.r1 g') (Rg.r2 g') (Rg.r3 g') (Rg.r4 g') (Rg.r5 g') (Rg.r6 g') (Rg.r7 g')) row' ∧ CallKind.normal = CallKind.normal ∧ TodoOk (ren 1 [(1, 1), (2, 4)]) oHd oHd ∧ off = off ∧ n = n ∧ (↑k : Int) = (↑k : Int) ∧ ari BinOp.add IntKind.i64 i (1 : Int) = ari BinOp.add IntKind.i64 i (1 : Int) ∧ ty = ty ∧ rs = rs ∧ (28 : TypeId) = (28 : TypeId) ∧ k = k ∧ nx' = nx' ∧ Rg.r0 g' = Rg.r0 g' ∧ Rg.r1 g' = Rg.r1 g' ∧ Rg.r2 g' = Rg.r2 g' ∧ Rg.r3 g' = Rg.r3 g' ∧ Rg.r4 g' = Rg.r4 g' ∧ Rg.r5 g' = Rg.r5 g' ∧ Rg.r6 g' = Rg.r6 g' ∧ Rg.r7 g' = Rg.r7 g' ∧ (62 : TypeId) = (62 : TypeId) ∧ row' = row' ∧ True)) ∧ ((b == true) = false → Q (ari BinOp.add IntKind.i64 i (1 : Int)) nx' (Rg.mk (Rg.r0 g') (Rg.r1 g') (Rg.r2 g') (Rg.r3 g') (Rg.r4 g') (Rg.r5 g') (Rg.r6 g') (Rg.r7 g')) row' ∧ CallKind.normal = CallKind.normal ∧ TodoOk (ren 1 [(1, 1), (2, 4)]) oHd oHd ∧ off = off ∧ n = n ∧ (↑k : Int) = (↑k : Int) ∧ ari BinOp.add IntKind.i64 i (1 : Int) = ari BinOp.add IntKind.i64 i (1 : Int) ∧ ty = ty ∧ rs = rs ∧ (28 : TypeId) = (28 : TypeId) ∧ k = k ∧ nx' = nx' ∧ Rg.r0 g' = Rg.r0 g' ∧ Rg.r1 g' = Rg.r1 g' ∧ Rg.r2 g' = Rg.r2 g' ∧ Rg.r3 g' = Rg.r3 g' ∧ Rg.r4 g' = Rg.r4 g' ∧ Rg.r5 g' = Rg.r5 g' ∧ Rg.r6 g' = Rg.r6 g' ∧ Rg.r7 g' = Rg.r7 g' ∧ (62 : TypeId) = (62 : TypeId) ∧ row' = row' ∧ True)) ∧ ((decide (c > (3 : Int)) == false) = false → false = true)) ∧ ((decide (c > (1 : Int)) == false) = false → false = true)) ∧ (((!b) == true) = false → ((decide (c > (3 : Int)) == false) = true → ((b == true) = true → ((decide (nx < (↑k : Int)) == true) = true → (((0 : Int) ≤ i ∧ i < (↑n : Int)) ∧ True) ∧ (IsInt IntKind.i64 rs (off + Int.toNat i * 3) ∧ True) ∧ (((Rg.r7 g' != IntKind.wrap IntKind.u64 (intAt rs (off + Int.toNat i * 3))) == false) = true → ((nx' != ari BinOp.add IntKind.i64 nx (1 : Int)) = true → false = true) ∧ ((nx' != ari BinOp.add IntKind.i64 nx (1 : Int)) = false → Q (ari BinOp.add IntKind.i64 i (1 : Int)) nx' (Rg.mk (Rg.r0 g') (Rg.r1 g') (Rg.r2 g') (Rg.r3 g') (Rg.r4 g') (Rg.r5 g') (Rg.r6 g') (Rg.r7 g')) row' ∧ CallKind.normal = CallKind.normal ∧ TodoOk (ren 1 [(1, 1), (2, 4)]) oHd oHd ∧ off = off ∧ n = n ∧ (↑k : Int) = (↑k : Int) ∧ ari BinOp.add IntKind.i64 i (1 : Int) = ari BinOp.add IntKind.i64 i (1 : Int) ∧ ty = ty ∧ rs = rs ∧ (28 : TypeId) = (28 : TypeId) ∧ k = k ∧ nx' = nx' ∧ Rg.r0 g' = Rg.r0 g' ∧ Rg.r1 g' = Rg.r1 g' ∧ Rg.r2 g' = Rg.r2 g' ∧ Rg.r3 g' = Rg.r3 g' ∧ Rg.r4 g' = Rg.r4 g' ∧ Rg.r5 g' = Rg.r5 g' ∧ Rg.r6 g' = Rg.r6 g' ∧ Rg.r7 g' = Rg.r7 g' ∧ (62 : TypeId) = (62 : TypeId) ∧ row' = row' ∧ True)) ∧ (((Rg.r7 g' != IntKind.wrap IntKind.u64 (intAt rs (off + Int.toNat i * 3))) == false) = false → false = true)) ∧ ((decide (nx < (↑k : Int)) == true) = false → Q (ari BinOp.add IntKind.i64 i (1 : Int)) nx' (Rg.mk (Rg.r0 g') (Rg.r1 g') (Rg.r2 g') (Rg.r3 g') (Rg.r4 g') (Rg.r5 g') (Rg.r6 g') (Rg.r7 g')) row' ∧ CallKind.normal = CallKind.normal ∧ TodoOk (ren 1 [(1, 1), (2, 4)]) oHd oHd ∧ off = off ∧ n = n ∧ (↑k : Int) = (↑k : Int) ∧ ari BinOp.add IntKind.i64 i (1 : Int) = ari BinOp.add IntKind.i64 i (1 : Int) ∧ ty = ty ∧ rs = rs ∧ (28 : TypeId) = (28 : TypeId) ∧ k = k ∧ nx' = nx' ∧ Rg.r0 g' = Rg.r0 g' ∧ Rg.r1 g' = Rg.r1 g' ∧ Rg.r2 g' = Rg.r2 g' ∧ Rg.r3 g' = Rg.r3 g' ∧ Rg.r4 g' = Rg.r4 g' ∧ Rg.r5 g' = Rg.r5 g' ∧ Rg.r6 g' = Rg.r6 g' ∧ Rg.r7 g' = Rg.r7 g' ∧ (62 : TypeId) = (62 : TypeId) ∧ row' = row' ∧ True)) ∧ ((b == true) = false → Q (ari BinOp.add IntKind.i64 i (1 : Int)) nx' (Rg.mk (Rg.r0 g') (Rg.r1 g') (Rg.r2 g') (Rg.r3 g') (Rg.r4 g') (Rg.r5 g') (Rg.r6 g') (Rg.r7 g')) row' ∧ CallKind.normal = CallKind.normal ∧ TodoOk (ren 1 [(1, 1), (2, 4)]) oHd oHd ∧ off = off ∧ n = n ∧ (↑k : Int) = (↑k : Int) ∧ ari BinOp.add IntKind.i64 i (1 : Int) = ari BinOp.add IntKind.i64 i (1 : Int) ∧ ty = ty ∧ rs = rs ∧ (28 : TypeId) = (28 : TypeId) ∧ k = k ∧ nx' = nx' ∧ Rg.r0 g' = Rg.r0 g' ∧ Rg.r1 g' = Rg.r1 g' ∧ Rg.r2 g' = Rg.r2 g' ∧ Rg.r3 g' = Rg.r3 g' ∧ Rg.r4 g' = Rg.r4 g' ∧ Rg.r5 g' = Rg.r5 g' ∧ Rg.r6 g' = Rg.r6 g' ∧ Rg.r7 g' = Rg.r7 g' ∧ (62 : TypeId) = (62 : TypeId) ∧ row' = row' ∧ True)) ∧ ((decide (c > (3 : Int)) == false) = false → false = true))) ∧ ((((↑k : Int) != (↑k : Int)) == false) = false → false = true)) ∧ ((decide (nx' > (↑k : Int)) == false) = false → false = true)) ∧ ((decide (nx' < (0 : Int)) == false) = false → false = true)) := by kernel_rfl
end Go.Proofs.Ytkidmmgkfopecaa
/- Of task: the rounds of TaskGoes end with true. No condition. -/
namespace Go.Proofs.Ytkidmmgkfopecaa
set_option maxRecDepth 100000
set_option linter.unusedSectionVars false
def dfI (x y : Int) : Int := if x = y then 0 else 1
theorem dfI_range (x y : Int) : 0 ≤ dfI x y ∧ dfI x y ≤ 1 := by unfold dfI; split <;> omega
theorem dfI_same (x : Int) : dfI x x = 0 := if_pos rfl
theorem dfI_sel (k j : Nat) (v r : Int) : (0 ≤ dfI (selI k j v r) r ∧ dfI (selI k j v r) r ≤ 1) ∧ (k ≠ j → dfI (selI k j v r) r = 0) := by
  refine ⟨dfI_range _ _, fun h => ?_⟩
  unfold selI
  rw [if_neg h]
  exact dfI_same r
/-- How many registers differ. -/
def Rg.df (g' g : Rg) : Int := dfI g'.r0 g.r0 + dfI g'.r1 g.r1 + dfI g'.r2 g.r2 + dfI g'.r3 g.r3 + dfI g'.r4 g.r4 + dfI g'.r5 g.r5 + dfI g'.r6 g.r6 + dfI g'.r7 g.r7
theorem df_same (g : Rg) : Rg.df ⟨g.r0, g.r1, g.r2, g.r3, g.r4, g.r5, g.r6, g.r7⟩ g = 0 := by
  simp only [Rg.df, dfI_same]
  rfl
theorem df_set (g : Rg) (t : Nat) (v : Int) : Rg.df ⟨selI (2 + t * 1) 2 v g.r0, selI (2 + t * 1) 3 v g.r1, selI (2 + t * 1) 4 v g.r2, selI (2 + t * 1) 5 v g.r3, selI (2 + t * 1) 6 v g.r4, selI (2 + t * 1) 7 v g.r5, selI (2 + t * 1) 8 v g.r6, selI (2 + t * 1) 9 v g.r7⟩ g ≤ 1 := by
  have h0 := dfI_sel (2 + t * 1) 2 v g.r0
  have h1 := dfI_sel (2 + t * 1) 3 v g.r1
  have h2 := dfI_sel (2 + t * 1) 4 v g.r2
  have h3 := dfI_sel (2 + t * 1) 5 v g.r3
  have h4 := dfI_sel (2 + t * 1) 6 v g.r4
  have h5 := dfI_sel (2 + t * 1) 7 v g.r5
  have h6 := dfI_sel (2 + t * 1) 8 v g.r6
  have h7 := dfI_sel (2 + t * 1) 9 v g.r7
  simp only [Rg.df]
  omega
theorem df_call (g : Rg) (t : Nat) (v x y : Int) : Rg.df ⟨selI (2 + t * 1) 2 v g.r0, selI (2 + t * 1) 3 v g.r1, selI (2 + t * 1) 4 v g.r2, selI (2 + t * 1) 5 v g.r3, x, selI (2 + t * 1) 7 v g.r5, selI (2 + t * 1) 8 v g.r6, y⟩ g ≤ 3 := by
  have h0 := dfI_sel (2 + t * 1) 2 v g.r0
  have h1 := dfI_sel (2 + t * 1) 3 v g.r1
  have h2 := dfI_sel (2 + t * 1) 4 v g.r2
  have h3 := dfI_sel (2 + t * 1) 5 v g.r3
  have h4 := dfI_range x g.r4
  have h5 := dfI_sel (2 + t * 1) 7 v g.r5
  have h6 := dfI_sel (2 + t * 1) 8 v g.r6
  have h7 := dfI_range y g.r7
  simp only [Rg.df]
  omega
theorem oTd_head : headL oTd = oHd := by kernel_rfl
theorem iTd_head : headL iTd = iHd := by kernel_rfl
theorem oF_head {off n k : Nat} {i : Int} : headF (oF off n k i) = oH off n k i := by
  show [(⟨4, _, headL oTd, [], .run, .normal, none⟩ : SFr)] = _
  rw [oTd_head]; rfl
theorem zF_head {off n : Nat} {i : Int} : headF (zF off n i) = zH off n i := by
  show [(⟨4, _, headL oTd, [], .run, .normal, none⟩ : SFr)] = _
  rw [oTd_head]; rfl
theorem iF_head {off n k j : Nat} {i c : Int} {b : Bool} : headF (iF off n k j i c b) = iH off n k j i c b := by
  show [(⟨4, _, headL iTd, [], .run, .normal, none⟩ : SFr)] = _
  rw [iTd_head]; rfl
section
variable {off n : Nat} {rs : Array Value} {ty : TypeId} {k : Nat}
theorem oN_good {h : Bool} {A : SV → SMem → Prop} {Q : Int → Int → Rg → Array Value → Prop} (hg : ∀ i nx g row, Q i nx g row → Good Try.prog A 1 (oH off n k i) (oM true rs ty k nx g row)) {fs : List SFr} {m : SMem} (hb : oN h off n rs ty k Q fs m) : Good Try.prog A 1 fs m := by
  unfold oN at hb
  split at hb
  · split at hb
    · split at hb
      · split at hb
        · cases h with
          | true => exact Good.of_sub hb.2 (hg _ _ _ _ hb.1)
          | false => exact Good.of_sub hb.2 (Good.head (by rw [show (cond false oH oF) off n k = oF off n k from rfl, oF_head]; exact hg _ _ _ _ hb.1))
        · exact hb.elim
      · exact hb.elim
    · exact hb.elim
  · exact hb.elim
theorem zN_good {h : Bool} {A : SV → SMem → Prop} {Q : Int → Prop} (hg : ∀ i, Q i → Good Try.prog A 1 (zH off n i) (zM rs ty)) {fs : List SFr} {m : SMem} (hb : zN h off n rs ty Q fs m) : Good Try.prog A 1 fs m := by
  unfold zN at hb
  split at hb
  · split at hb
    · cases h with
      | true => exact Good.of_sub hb.2 (hg _ hb.1)
      | false => exact Good.of_sub hb.2 (Good.head (by rw [show (cond false zH zF) off n = zF off n from rfl, zF_head]; exact hg _ hb.1))
    · exact hb.elim
  · exact hb.elim
theorem iN_good {h : Bool} {j : Nat} {i nx : Int} {g : Rg} {row : Array Value} {b : Bool} {A : SV → SMem → Prop} {Q : Int → Int → Rg → Array Value → Prop} (hg : ∀ c nx' g' row', Q c nx' g' row' → Good Try.prog A 1 (iH off n k j i c b) (iM rs ty k nx nx' g g' row row')) {fs : List SFr} {m : SMem} (hb : iN h off n rs ty k j i nx g row b Q fs m) : Good Try.prog A 1 fs m := by
  unfold iN at hb
  split at hb
  · split at hb
    · split at hb
      · split at hb
        · cases h with
          | true => exact Good.of_sub hb.2 (hg _ _ _ _ hb.1)
          | false => exact Good.of_sub hb.2 (Good.head (by rw [show (cond false iH iF) off n k j i = iF off n k j i from rfl, iF_head]; exact hg _ _ _ _ hb.1))
        · exact hb.elim
      · exact hb.elim
    · exact hb.elim
  · exact hb.elim
theorem iH_ok : TodoOk (ren 1 [(1, 1), (2, 2), (3, 3), (4, 4)]) iHd iHd := TodoOk.same (by kernel_rfl)
theorem iT_9 : TodoOk (ren 1 [(1, 1), (2, 2), (3, 9), (4, 14)]) iTd iTd := TodoOk.same (by kernel_rfl)
theorem iT_11 : TodoOk (ren 1 [(1, 1), (2, 2), (3, 11), (4, 7)]) iTd iTd := TodoOk.same (by kernel_rfl)
theorem oH_14 : TodoOk (ren 1 [(1, 1), (2, 4)]) oHd oHd := TodoOk.same (by kernel_rfl)
theorem oH_1 : TodoOk (ren 1 [(1, 1)]) oHd oHd := TodoOk.same (by kernel_rfl)
theorem oT_32 : TodoOk (ren 1 [(1, 3), (2, 2)]) oTd oTd := TodoOk.same (by kernel_rfl)
theorem add1 {c : Int} (h : 0 ≤ c ∧ c ≤ 1000) : ari BinOp.add IntKind.i64 c 1 = c + 1 := by rw [ari_add, Go.IntWalk.i64_in _ (by omega)]
/-- What a round leaves, if the task was so. -/
structure PK (b : Bool) (k : Nat) (R : Array Value) (nx : Int) (g : Rg) (E : Int) (nx' : Int) (g' : Rg) (row' : Array Value) : Prop where
  row : row' = R
  lo : 0 ≤ nx'
  hi : nx' ≤ k
  one : b = false → g'.df g ≤ 1
  three : g'.df g ≤ 3
  ans : b = true → nx < k → g'.r7 = IntKind.u64.wrap E ∧ nx' = nx + 1
structure PC (b : Bool) (k : Nat) (R : Array Value) (nx : Int) (g : Rg) (E : Int) (c nx' : Int) (g' : Rg) (row' : Array Value) : Prop where
  c0 : c = 0
  pk : PK b k R nx g E nx' g' row'
structure ResOk (rs : Array Value) (off n : Nat) : Prop where
  at' : ∀ i, i < n → IsInt .i64 rs (off + i * 3) ∧ IsInt .u64 rs (off + i * 3 + 1) ∧ IsInt .u32 rs (off + i * 3 + 2)
section
variable {i nx c nx' : Int} {g g' : Rg} {row row' : Array Value} {b : Bool}
structure ONext (off n : Nat) (rs : Array Value) (ty : TypeId) (k : Nat) (R : Array Value) (i : Int) : Prop where
  good : ∀ (nx : Int) (g : Rg), 0 ≤ nx → nx ≤ k → Good Try.prog (boolR true) 1 (oH off n k i) (oM true rs ty k nx g R)
structure QE (i0 nx0 : Int) (g0 : Rg) (row0 : Array Value) (i nx : Int) (g : Rg) (row : Array Value) : Prop where
  e1 : i = i0
  e2 : nx = nx0
  e3 : g = g0
  e4 : row = row0
theorem e_good (hk : k ≤ 64) (hn : n ≤ 200) (hO : ONext off n rs ty k row' (i + 1)) (hi : 0 ≤ i ∧ i < n) (hr : ResOk rs off n) (hp : PK b k row nx g (intAt rs (off + i.toNat * 3)) nx' g' row') (hnx : 0 ≤ nx ∧ nx ≤ k) (hc : c = g'.df g) :
    Good Try.prog (boolR true) 1 (iH off n k 8 i c b) (iM rs ty k nx nx' g g' row row') := by
  refine past_vc (EK_ok 0 4 [8]) 1000 (go_e off n rs ty k i nx c nx' g g' row row' b (QE (i + 1) nx' g' row')) ?_ (fun _ _ h => h)
    (fun fs m hb => oN_good (fun i1 nx1 g1 row1 ⟨e1, e2, e3, e4⟩ => by rw [e1, e2, e3, e4]; exact hO.good nx' g' hp.lo hp.hi) hb)
  have h1 := hp.lo
  have h2 := hp.hi
  have h3 := hp.three
  have h4 := hp.one
  have h5 := hp.ans
  have hres := (hr.at' i.toNat (by omega)).1
  have ei : ari BinOp.add IntKind.i64 i 1 = i + 1 := add1 (by omega)
  have en : ari BinOp.add IntKind.i64 nx 1 = nx + 1 := add1 (by omega)
  have hQ : QE (i + 1) nx' g' row' (i + 1) nx' (Rg.mk (Rg.r0 g') (Rg.r1 g') (Rg.r2 g') (Rg.r3 g') (Rg.r4 g') (Rg.r5 g') (Rg.r6 g') (Rg.r7 g')) row' := ⟨rfl, rfl, rfl, rfl⟩
  rw [ei, en]
  clear ei en hO hr hp
  rw [← hc] at h3 h4
  clear hc
  cases b
  all_goals
    repeat' first | exact trivial | exact hQ | exact oH_14 | exact rfl | exact hres | exact hi.1 | exact hi.2 | apply And.intro | (intro hh)
  all_goals first | (exfalso; simp at *; done) | (exfalso; simp_all; done) | (exfalso; simp_all; omega)
end
end
end Go.Proofs.Ytkidmmgkfopecaa
/- Of task: TaskGoes' runs end with true. No condition. -/
namespace Go.Proofs.Ytkidmmgkfopecaa
set_option maxRecDepth 100000
set_option linter.unusedSectionVars false
section
variable {off n : Nat} {rs : Array Value} {ty : TypeId} {k : Nat} {i nx c nx' : Int} {g g' : Rg} {row row' : Array Value} {b : Bool}
theorem dfI_ne {x y : Int} (h : (x != y) = true) : dfI x y = 1 := if_neg (by simpa using h)
theorem dfI_eq {x y : Int} (h : (x != y) = false) : dfI x y = 0 := if_pos (by simpa using h)
theorem gi_0 (hc : 0 ≤ c ∧ c ≤ 8) (h : Good Try.prog (boolR true) 1 (iH off n k 1 i (c + dfI g'.r0 g.r0) b) (iM rs ty k nx nx' g g' row row')) : Good Try.prog (boolR true) 1 (iH off n k 0 i c b) (iM rs ty k nx nx' g g' row row') := by
  refine past_vc (EK_ok 0 4 [18]) 1000 (go_i0 off n rs ty k i nx c nx' g g' row row' b (QE (c + dfI g'.r0 g.r0) nx' g' row')) ?_ (fun _ _ h => h)
    (fun fs m hb => iN_good (fun i1 nx1 g1 row1 ⟨e1, e2, e3, e4⟩ => by rw [e1, e2, e3, e4]; exact h) hb)
  refine ⟨fun h => ?_, fun h => ?_⟩
  · rw [dfI_ne h, add1 (by omega)]
    have hQ : QE (c + 1) nx' g' row' (c + 1) nx' (Rg.mk (Rg.r0 g') (Rg.r1 g') (Rg.r2 g') (Rg.r3 g') (Rg.r4 g') (Rg.r5 g') (Rg.r6 g') (Rg.r7 g')) row' := ⟨rfl, rfl, rfl, rfl⟩
    repeat' first | exact trivial | exact hQ | exact iH_ok | exact rfl | apply And.intro
  · rw [dfI_eq h, Int.add_zero]
    have hQ : QE c nx' g' row' c nx' (Rg.mk (Rg.r0 g') (Rg.r1 g') (Rg.r2 g') (Rg.r3 g') (Rg.r4 g') (Rg.r5 g') (Rg.r6 g') (Rg.r7 g')) row' := ⟨rfl, rfl, rfl, rfl⟩
    repeat' first | exact trivial | exact hQ | exact iH_ok | exact rfl | apply And.intro
theorem gi_1 (hc : 0 ≤ c ∧ c ≤ 8) (h : Good Try.prog (boolR true) 1 (iH off n k 2 i (c + dfI g'.r1 g.r1) b) (iM rs ty k nx nx' g g' row row')) : Good Try.prog (boolR true) 1 (iH off n k 1 i c b) (iM rs ty k nx nx' g g' row row') := by
  refine past_vc (EK_ok 0 4 [18]) 1000 (go_i1 off n rs ty k i nx c nx' g g' row row' b (QE (c + dfI g'.r1 g.r1) nx' g' row')) ?_ (fun _ _ h => h)
    (fun fs m hb => iN_good (fun i1 nx1 g1 row1 ⟨e1, e2, e3, e4⟩ => by rw [e1, e2, e3, e4]; exact h) hb)
  refine ⟨fun h => ?_, fun h => ?_⟩
  · rw [dfI_ne h, add1 (by omega)]
    have hQ : QE (c + 1) nx' g' row' (c + 1) nx' (Rg.mk (Rg.r0 g') (Rg.r1 g') (Rg.r2 g') (Rg.r3 g') (Rg.r4 g') (Rg.r5 g') (Rg.r6 g') (Rg.r7 g')) row' := ⟨rfl, rfl, rfl, rfl⟩
    repeat' first | exact trivial | exact hQ | exact iH_ok | exact rfl | apply And.intro
  · rw [dfI_eq h, Int.add_zero]
    have hQ : QE c nx' g' row' c nx' (Rg.mk (Rg.r0 g') (Rg.r1 g') (Rg.r2 g') (Rg.r3 g') (Rg.r4 g') (Rg.r5 g') (Rg.r6 g') (Rg.r7 g')) row' := ⟨rfl, rfl, rfl, rfl⟩
    repeat' first | exact trivial | exact hQ | exact iH_ok | exact rfl | apply And.intro
theorem gi_2 (hc : 0 ≤ c ∧ c ≤ 8) (h : Good Try.prog (boolR true) 1 (iH off n k 3 i (c + dfI g'.r2 g.r2) b) (iM rs ty k nx nx' g g' row row')) : Good Try.prog (boolR true) 1 (iH off n k 2 i c b) (iM rs ty k nx nx' g g' row row') := by
  refine past_vc (EK_ok 0 4 [18]) 1000 (go_i2 off n rs ty k i nx c nx' g g' row row' b (QE (c + dfI g'.r2 g.r2) nx' g' row')) ?_ (fun _ _ h => h)
    (fun fs m hb => iN_good (fun i1 nx1 g1 row1 ⟨e1, e2, e3, e4⟩ => by rw [e1, e2, e3, e4]; exact h) hb)
  refine ⟨fun h => ?_, fun h => ?_⟩
  · rw [dfI_ne h, add1 (by omega)]
    have hQ : QE (c + 1) nx' g' row' (c + 1) nx' (Rg.mk (Rg.r0 g') (Rg.r1 g') (Rg.r2 g') (Rg.r3 g') (Rg.r4 g') (Rg.r5 g') (Rg.r6 g') (Rg.r7 g')) row' := ⟨rfl, rfl, rfl, rfl⟩
    repeat' first | exact trivial | exact hQ | exact iH_ok | exact rfl | apply And.intro
  · rw [dfI_eq h, Int.add_zero]
    have hQ : QE c nx' g' row' c nx' (Rg.mk (Rg.r0 g') (Rg.r1 g') (Rg.r2 g') (Rg.r3 g') (Rg.r4 g') (Rg.r5 g') (Rg.r6 g') (Rg.r7 g')) row' := ⟨rfl, rfl, rfl, rfl⟩
    repeat' first | exact trivial | exact hQ | exact iH_ok | exact rfl | apply And.intro
theorem gi_3 (hc : 0 ≤ c ∧ c ≤ 8) (h : Good Try.prog (boolR true) 1 (iH off n k 4 i (c + dfI g'.r3 g.r3) b) (iM rs ty k nx nx' g g' row row')) : Good Try.prog (boolR true) 1 (iH off n k 3 i c b) (iM rs ty k nx nx' g g' row row') := by
  refine past_vc (EK_ok 0 4 [18]) 1000 (go_i3 off n rs ty k i nx c nx' g g' row row' b (QE (c + dfI g'.r3 g.r3) nx' g' row')) ?_ (fun _ _ h => h)
    (fun fs m hb => iN_good (fun i1 nx1 g1 row1 ⟨e1, e2, e3, e4⟩ => by rw [e1, e2, e3, e4]; exact h) hb)
  refine ⟨fun h => ?_, fun h => ?_⟩
  · rw [dfI_ne h, add1 (by omega)]
    have hQ : QE (c + 1) nx' g' row' (c + 1) nx' (Rg.mk (Rg.r0 g') (Rg.r1 g') (Rg.r2 g') (Rg.r3 g') (Rg.r4 g') (Rg.r5 g') (Rg.r6 g') (Rg.r7 g')) row' := ⟨rfl, rfl, rfl, rfl⟩
    repeat' first | exact trivial | exact hQ | exact iH_ok | exact rfl | apply And.intro
  · rw [dfI_eq h, Int.add_zero]
    have hQ : QE c nx' g' row' c nx' (Rg.mk (Rg.r0 g') (Rg.r1 g') (Rg.r2 g') (Rg.r3 g') (Rg.r4 g') (Rg.r5 g') (Rg.r6 g') (Rg.r7 g')) row' := ⟨rfl, rfl, rfl, rfl⟩
    repeat' first | exact trivial | exact hQ | exact iH_ok | exact rfl | apply And.intro
theorem gi_4 (hc : 0 ≤ c ∧ c ≤ 8) (h : Good Try.prog (boolR true) 1 (iH off n k 5 i (c + dfI g'.r4 g.r4) b) (iM rs ty k nx nx' g g' row row')) : Good Try.prog (boolR true) 1 (iH off n k 4 i c b) (iM rs ty k nx nx' g g' row row') := by
  refine past_vc (EK_ok 0 4 [18]) 1000 (go_i4 off n rs ty k i nx c nx' g g' row row' b (QE (c + dfI g'.r4 g.r4) nx' g' row')) ?_ (fun _ _ h => h)
    (fun fs m hb => iN_good (fun i1 nx1 g1 row1 ⟨e1, e2, e3, e4⟩ => by rw [e1, e2, e3, e4]; exact h) hb)
  refine ⟨fun h => ?_, fun h => ?_⟩
  · rw [dfI_ne h, add1 (by omega)]
    have hQ : QE (c + 1) nx' g' row' (c + 1) nx' (Rg.mk (Rg.r0 g') (Rg.r1 g') (Rg.r2 g') (Rg.r3 g') (Rg.r4 g') (Rg.r5 g') (Rg.r6 g') (Rg.r7 g')) row' := ⟨rfl, rfl, rfl, rfl⟩
    repeat' first | exact trivial | exact hQ | exact iH_ok | exact rfl | apply And.intro
  · rw [dfI_eq h, Int.add_zero]
    have hQ : QE c nx' g' row' c nx' (Rg.mk (Rg.r0 g') (Rg.r1 g') (Rg.r2 g') (Rg.r3 g') (Rg.r4 g') (Rg.r5 g') (Rg.r6 g') (Rg.r7 g')) row' := ⟨rfl, rfl, rfl, rfl⟩
    repeat' first | exact trivial | exact hQ | exact iH_ok | exact rfl | apply And.intro
theorem gi_5 (hc : 0 ≤ c ∧ c ≤ 8) (h : Good Try.prog (boolR true) 1 (iH off n k 6 i (c + dfI g'.r5 g.r5) b) (iM rs ty k nx nx' g g' row row')) : Good Try.prog (boolR true) 1 (iH off n k 5 i c b) (iM rs ty k nx nx' g g' row row') := by
  refine past_vc (EK_ok 0 4 [18]) 1000 (go_i5 off n rs ty k i nx c nx' g g' row row' b (QE (c + dfI g'.r5 g.r5) nx' g' row')) ?_ (fun _ _ h => h)
    (fun fs m hb => iN_good (fun i1 nx1 g1 row1 ⟨e1, e2, e3, e4⟩ => by rw [e1, e2, e3, e4]; exact h) hb)
  refine ⟨fun h => ?_, fun h => ?_⟩
  · rw [dfI_ne h, add1 (by omega)]
    have hQ : QE (c + 1) nx' g' row' (c + 1) nx' (Rg.mk (Rg.r0 g') (Rg.r1 g') (Rg.r2 g') (Rg.r3 g') (Rg.r4 g') (Rg.r5 g') (Rg.r6 g') (Rg.r7 g')) row' := ⟨rfl, rfl, rfl, rfl⟩
    repeat' first | exact trivial | exact hQ | exact iH_ok | exact rfl | apply And.intro
  · rw [dfI_eq h, Int.add_zero]
    have hQ : QE c nx' g' row' c nx' (Rg.mk (Rg.r0 g') (Rg.r1 g') (Rg.r2 g') (Rg.r3 g') (Rg.r4 g') (Rg.r5 g') (Rg.r6 g') (Rg.r7 g')) row' := ⟨rfl, rfl, rfl, rfl⟩
    repeat' first | exact trivial | exact hQ | exact iH_ok | exact rfl | apply And.intro
theorem gi_6 (hc : 0 ≤ c ∧ c ≤ 8) (h : Good Try.prog (boolR true) 1 (iH off n k 7 i (c + dfI g'.r6 g.r6) b) (iM rs ty k nx nx' g g' row row')) : Good Try.prog (boolR true) 1 (iH off n k 6 i c b) (iM rs ty k nx nx' g g' row row') := by
  refine past_vc (EK_ok 0 4 [18]) 1000 (go_i6 off n rs ty k i nx c nx' g g' row row' b (QE (c + dfI g'.r6 g.r6) nx' g' row')) ?_ (fun _ _ h => h)
    (fun fs m hb => iN_good (fun i1 nx1 g1 row1 ⟨e1, e2, e3, e4⟩ => by rw [e1, e2, e3, e4]; exact h) hb)
  refine ⟨fun h => ?_, fun h => ?_⟩
  · rw [dfI_ne h, add1 (by omega)]
    have hQ : QE (c + 1) nx' g' row' (c + 1) nx' (Rg.mk (Rg.r0 g') (Rg.r1 g') (Rg.r2 g') (Rg.r3 g') (Rg.r4 g') (Rg.r5 g') (Rg.r6 g') (Rg.r7 g')) row' := ⟨rfl, rfl, rfl, rfl⟩
    repeat' first | exact trivial | exact hQ | exact iH_ok | exact rfl | apply And.intro
  · rw [dfI_eq h, Int.add_zero]
    have hQ : QE c nx' g' row' c nx' (Rg.mk (Rg.r0 g') (Rg.r1 g') (Rg.r2 g') (Rg.r3 g') (Rg.r4 g') (Rg.r5 g') (Rg.r6 g') (Rg.r7 g')) row' := ⟨rfl, rfl, rfl, rfl⟩
    repeat' first | exact trivial | exact hQ | exact iH_ok | exact rfl | apply And.intro
theorem gi_7 (hc : 0 ≤ c ∧ c ≤ 8) (h : Good Try.prog (boolR true) 1 (iH off n k 8 i (c + dfI g'.r7 g.r7) b) (iM rs ty k nx nx' g g' row row')) : Good Try.prog (boolR true) 1 (iH off n k 7 i c b) (iM rs ty k nx nx' g g' row row') := by
  refine past_vc (EK_ok 0 4 [18]) 1000 (go_i7 off n rs ty k i nx c nx' g g' row row' b (QE (c + dfI g'.r7 g.r7) nx' g' row')) ?_ (fun _ _ h => h)
    (fun fs m hb => iN_good (fun i1 nx1 g1 row1 ⟨e1, e2, e3, e4⟩ => by rw [e1, e2, e3, e4]; exact h) hb)
  refine ⟨fun h => ?_, fun h => ?_⟩
  · rw [dfI_ne h, add1 (by omega)]
    have hQ : QE (c + 1) nx' g' row' (c + 1) nx' (Rg.mk (Rg.r0 g') (Rg.r1 g') (Rg.r2 g') (Rg.r3 g') (Rg.r4 g') (Rg.r5 g') (Rg.r6 g') (Rg.r7 g')) row' := ⟨rfl, rfl, rfl, rfl⟩
    repeat' first | exact trivial | exact hQ | exact iH_ok | exact rfl | apply And.intro
  · rw [dfI_eq h, Int.add_zero]
    have hQ : QE c nx' g' row' c nx' (Rg.mk (Rg.r0 g') (Rg.r1 g') (Rg.r2 g') (Rg.r3 g') (Rg.r4 g') (Rg.r5 g') (Rg.r6 g') (Rg.r7 g')) row' := ⟨rfl, rfl, rfl, rfl⟩
    repeat' first | exact trivial | exact hQ | exact iH_ok | exact rfl | apply And.intro
theorem i_good (hk : k ≤ 64) (hn : n ≤ 200) (hO : ONext off n rs ty k row (i + 1)) (hi : 0 ≤ i ∧ i < n) (hr : ResOk rs off n) (hnx : 0 ≤ nx ∧ nx ≤ k) (hc : c = 0) (hp : PK b k row nx g (intAt rs (off + i.toNat * 3)) nx' g' row') :
    Good Try.prog (boolR true) 1 (iH off n k 0 i c b) (iM rs ty k nx nx' g g' row row') := by
  subst hc
  have e := hp.row
  subst e
  have d0 := dfI_range g'.r0 g.r0
  have d1 := dfI_range g'.r1 g.r1
  have d2 := dfI_range g'.r2 g.r2
  have d3 := dfI_range g'.r3 g.r3
  have d4 := dfI_range g'.r4 g.r4
  have d5 := dfI_range g'.r5 g.r5
  have d6 := dfI_range g'.r6 g.r6
  have d7 := dfI_range g'.r7 g.r7
  refine gi_0 (by omega) (gi_1 (by omega) (gi_2 (by omega) (gi_3 (by omega) (gi_4 (by omega) (gi_5 (by omega) (gi_6 (by omega) (gi_7 (by omega) (e_good hk hn hO hi hr hp hnx ?_))))))))
  simp only [Rg.df]
  omega
/-- A program that was decoded, and results that may be read. -/
structure Given (R : Array Value) (k off n : Nat) (rs : Array Value) : Prop where
  k64 : k ≤ 64
  n200 : n ≤ 200
  size : R.size = k * 5
  ins : InsOk R 0 k
  may : mayV R 0 k = true
  res : ResOk rs off n
theorem at5_nat {x : Int} : at5 0 x = 0 + x.toNat * 5 := rfl
theorem g_in8 {R : Array Value} (h : Given R k off n rs) (hx : 0 ≤ nx ∧ nx < k) : InsAt R (at5 0 nx) ∧ in8 R (at5 0 nx) ∧ (0 ≤ intAt R (at5 0 nx) ∧ (intAt R (at5 0 nx) ≤ 6 ∨ (16 < intAt R (at5 0 nx) ∧ intAt R (at5 0 nx) ≤ 38))) ∧ ((intAt R (at5 0 nx) = 5 ∨ intAt R (at5 0 nx) = 6) → intAt R (at5 0 nx + 4) < k) := by
  have hlt : nx.toNat < k := by omega
  obtain ⟨h1, r1, r2, r3, r4, r5⟩ := h.ins.2 nx.toNat hlt
  have ho := (mayV_iff.1 h.may).2 nx.toNat hlt
  rw [Ins.okN_iff] at ho
  simp only [Proofs.Ytkidmmgkfopecaa.ins] at r1 r2 r3 r4 r5 ho
  refine ⟨h1, ⟨⟨r2.1, ho.2.1⟩, ⟨r3.1, ho.2.2.1⟩, ⟨r4.1, ho.2.2.2.1⟩, r5⟩, ⟨r1.1, ho.1⟩, fun h5 => ?_⟩
  have := ho.2.2.2.2
  simp only [at5] at h5 ⊢
  omega
theorem ext_all {R : Array Value} (h : R.size = k * 5) : Array.extract R 0 (0 + k * 5) = R := by
  rw [Nat.zero_add, ← h, Array.extract_size]
theorem same_regs (g : Rg) : (!(Rg.r0 g == Rg.r0 g && (Rg.r1 g == Rg.r1 g && (Rg.r2 g == Rg.r2 g && (Rg.r3 g == Rg.r3 g && (Rg.r4 g == Rg.r4 g && (Rg.r5 g == Rg.r5 g && (Rg.r6 g == Rg.r6 g && Rg.r7 g == Rg.r7 g)))))))) = false := by simp
theorem same_int (x : Int) : (x != x) = false := by simp
variable {R : Array Value}
theorem pk_regs {E : Int} (hb : b = true → nx < k → False) (h : 0 ≤ nx' ∧ nx' ≤ k) : PK b k R nx g E nx' ⟨g.r0, g.r1, g.r2, g.r3, g.r4, g.r5, g.r6, g.r7⟩ R :=
  ⟨rfl, h.1, h.2, fun _ => by rw [df_same]; decide, by rw [df_same]; decide, fun h1 h2 => (hb h1 h2).elim⟩
theorem pk_set {E : Int} (t : Nat) (v : Int) (h : 0 ≤ nx' ∧ nx' ≤ k) : PK false k R nx g E nx' ⟨selI (2 + t * 1) 2 v g.r0, selI (2 + t * 1) 3 v g.r1, selI (2 + t * 1) 4 v g.r2, selI (2 + t * 1) 5 v g.r3, selI (2 + t * 1) 6 v g.r4, selI (2 + t * 1) 7 v g.r5, selI (2 + t * 1) 8 v g.r6, selI (2 + t * 1) 9 v g.r7⟩ R :=
  ⟨rfl, h.1, h.2, fun _ => df_set g t v, Int.le_trans (df_set g t v) (by decide), fun h => by cases h⟩
theorem pk_call {E : Int} (t : Nat) (v x : Int) (h : 0 ≤ nx ∧ nx < k) : PK true k R nx g E (nx + 1) ⟨selI (2 + t * 1) 2 v g.r0, selI (2 + t * 1) 3 v g.r1, selI (2 + t * 1) 4 v g.r2, selI (2 + t * 1) 5 v g.r3, x, selI (2 + t * 1) 7 v g.r5, selI (2 + t * 1) 8 v g.r6, IntKind.u64.wrap E⟩ R :=
  ⟨rfl, by omega, by omega, fun h => (by cases h), df_call g t v x _, fun _ _ => ⟨rfl, rfl⟩⟩
theorem o_end {kd : Nat} {h : Bool} {V : Prop} : V → V := fun h => h
theorem go_k0 (hG : Given R k off n rs) (hO : ONext off n rs ty k R (i + 1)) (hi : 0 ≤ i) (hnx : 0 ≤ nx ∧ nx ≤ k) (hk : (k : Int) ≤ nx) :
    Good Try.prog (boolR true) 1 (oH off n k i) (oM true rs ty k nx g R) := by
  by_cases hlt : i < n
  case neg =>
    exact past_vc (EK_ok 0 4 [18]) 1000 (go_0 off n rs ty k i nx g R (fun _ _ _ _ => False)) ⟨fun h => (hlt (of_decide_eq_true h)).elim, fun _ => rfl⟩ (fun _ _ h => h)
      (fun fs m hb => iN_good (fun _ _ _ _ h => h.elim) hb)
  refine past_vc (EK_ok 0 4 [18]) 1000 (go_0 off n rs ty k i nx g R (PC true k R nx g (intAt rs (off + i.toNat * 3)))) ?_ (fun _ _ h => h)
    (fun fs m hb => iN_good (fun c nx1 g1 row1 h => i_good hG.k64 hG.n200 hO ⟨hi, hlt⟩ hG.res hnx h.c0 h.pk) hb)
  rw [ext_all hG.size]
  refine ⟨fun _ => ?_, fun _ => rfl⟩
  have hsz := hG.size
  have hk64 := hG.k64
  obtain ⟨hr1, hr2, hr3⟩ := hG.res.at' i.toNat (by omega)
  simp only [same_regs, same_int, Nat.zero_add]
  have hQ : PC true k R nx g (intAt rs (off + i.toNat * 3)) 0 nx ⟨g.r0, g.r1, g.r2, g.r3, g.r4, g.r5, g.r6, g.r7⟩ R := ⟨rfl, pk_regs (fun _ h => by omega) hnx⟩
  clear hO
  repeat' first | exact trivial | exact hQ | exact iT_9 | exact iT_11 | exact rfl | exact hr1 | exact hr2 | exact hr3 | exact hk | omega | (intro hh; exact Bool.noConfusion hh) | apply And.intro | (intro hh)
theorem go_k1 (hG : Given R k off n rs) (hO : ONext off n rs ty k R (i + 1)) (hi : 0 ≤ i) (hnx : 0 ≤ nx ∧ nx ≤ k) (hk : nx < k ∧ opOk 1 (intAt R (at5 0 nx))) :
    Good Try.prog (boolR true) 1 (oH off n k i) (oM true rs ty k nx g R) := by
  by_cases hlt : i < n
  case neg =>
    exact past_vc (EK_ok 1 4 [18]) 1000 (go_1 off n rs ty k i nx g R (fun _ _ _ _ => False)) ⟨fun h => (hlt (of_decide_eq_true h)).elim, fun _ => rfl⟩ (fun _ _ h => h)
      (fun fs m hb => iN_good (fun _ _ _ _ h => h.elim) hb)
  refine past_vc (EK_ok 1 4 [18]) 1000 (go_1 off n rs ty k i nx g R (PC true k R nx g (intAt rs (off + i.toNat * 3)))) ?_ (fun _ _ h => h)
    (fun fs m hb => iN_good (fun c nx1 g1 row1 h => i_good hG.k64 hG.n200 hO ⟨hi, hlt⟩ hG.res hnx h.c0 h.pk) hb)
  rw [ext_all hG.size]
  refine ⟨fun _ => ?_, fun _ => rfl⟩
  have hsz := hG.size
  have hk64 := hG.k64
  obtain ⟨hr1, hr2, hr3⟩ := hG.res.at' i.toNat (by omega)
  obtain ⟨hlk, hop⟩ := hk
  obtain ⟨hI, h8, _, hj⟩ := g_in8 hG ⟨hnx.1, hlk⟩
  have h8' := h8
  unfold in8 at h8'
  have hA8 : decide (intAt R (at5 0 nx + 1) < 8) = true := decide_eq_true h8'.1.2
  have e1 : ari BinOp.add IntKind.i64 nx 1 = nx + 1 := add1 (by omega)
  simp only [same_regs, same_int, Nat.zero_add, hA8, e1]
  have hQ : ∀ t v x, PC true k R nx g (intAt rs (off + i.toNat * 3)) 0 (nx + 1) ⟨selI (2 + t * 1) 2 v g.r0, selI (2 + t * 1) 3 v g.r1, selI (2 + t * 1) 4 v g.r2, selI (2 + t * 1) 5 v g.r3, x, selI (2 + t * 1) 7 v g.r5, selI (2 + t * 1) 8 v g.r6, IntKind.u64.wrap (intAt rs (off + i.toNat * 3))⟩ R := fun t v x => ⟨rfl, pk_call t v x ⟨hnx.1, hlk⟩⟩
  clear hO
  repeat' first | exact trivial | exact hQ _ _ _ | exact iT_9 | exact iT_11 | exact rfl | exact hI | exact h8 | exact hop | exact h8'.1 | exact h8'.2.1 | exact h8'.2.2.1 | exact hr1 | exact hr2 | exact hr3 | exact hk | omega | (intro hh; exact Bool.noConfusion hh) | apply And.intro | (intro hh)
theorem go_k2 (hG : Given R k off n rs) (hO : ONext off n rs ty k R (i + 1)) (hi : 0 ≤ i) (hnx : 0 ≤ nx ∧ nx ≤ k) (hk : nx < k ∧ opOk 2 (intAt R (at5 0 nx))) :
    Good Try.prog (boolR true) 1 (oH off n k i) (oM true rs ty k nx g R) := by
  by_cases hlt : i < n
  case neg =>
    exact past_vc (EK_ok 2 4 [18]) 1000 (go_2 off n rs ty k i nx g R (fun _ _ _ _ => False)) ⟨fun h => (hlt (of_decide_eq_true h)).elim, fun _ => rfl⟩ (fun _ _ h => h)
      (fun fs m hb => iN_good (fun _ _ _ _ h => h.elim) hb)
  refine past_vc (EK_ok 2 4 [18]) 1000 (go_2 off n rs ty k i nx g R (PC true k R nx g (intAt rs (off + i.toNat * 3)))) ?_ (fun _ _ h => h)
    (fun fs m hb => iN_good (fun c nx1 g1 row1 h => i_good hG.k64 hG.n200 hO ⟨hi, hlt⟩ hG.res hnx h.c0 h.pk) hb)
  rw [ext_all hG.size]
  refine ⟨fun _ => ?_, fun _ => rfl⟩
  have hsz := hG.size
  have hk64 := hG.k64
  obtain ⟨hr1, hr2, hr3⟩ := hG.res.at' i.toNat (by omega)
  obtain ⟨hlk, hop⟩ := hk
  obtain ⟨hI, h8, _, hj⟩ := g_in8 hG ⟨hnx.1, hlk⟩
  have h8' := h8
  unfold in8 at h8'
  have hA8 : decide (intAt R (at5 0 nx + 1) < 8) = true := decide_eq_true h8'.1.2
  have e1 : ari BinOp.add IntKind.i64 nx 1 = nx + 1 := add1 (by omega)
  simp only [same_regs, same_int, Nat.zero_add, hA8, e1]
  have hQ : ∀ t v x, PC true k R nx g (intAt rs (off + i.toNat * 3)) 0 (nx + 1) ⟨selI (2 + t * 1) 2 v g.r0, selI (2 + t * 1) 3 v g.r1, selI (2 + t * 1) 4 v g.r2, selI (2 + t * 1) 5 v g.r3, x, selI (2 + t * 1) 7 v g.r5, selI (2 + t * 1) 8 v g.r6, IntKind.u64.wrap (intAt rs (off + i.toNat * 3))⟩ R := fun t v x => ⟨rfl, pk_call t v x ⟨hnx.1, hlk⟩⟩
  clear hO
  repeat' first | exact trivial | exact hQ _ _ _ | exact iT_9 | exact iT_11 | exact rfl | exact hI | exact h8 | exact hop | exact h8'.1 | exact h8'.2.1 | exact h8'.2.2.1 | exact hr1 | exact hr2 | exact hr3 | exact hk | omega | (intro hh; exact Bool.noConfusion hh) | apply And.intro | (intro hh)
theorem go_k3 (hG : Given R k off n rs) (hO : ONext off n rs ty k R (i + 1)) (hi : 0 ≤ i) (hnx : 0 ≤ nx ∧ nx ≤ k) (hk : nx < k ∧ opOk 3 (intAt R (at5 0 nx))) :
    Good Try.prog (boolR true) 1 (oH off n k i) (oM true rs ty k nx g R) := by
  by_cases hlt : i < n
  case neg =>
    exact past_vc (EK_ok 3 4 [18]) 1000 (go_3 off n rs ty k i nx g R (fun _ _ _ _ => False)) ⟨fun h => (hlt (of_decide_eq_true h)).elim, fun _ => rfl⟩ (fun _ _ h => h)
      (fun fs m hb => iN_good (fun _ _ _ _ h => h.elim) hb)
  refine past_vc (EK_ok 3 4 [18]) 1000 (go_3 off n rs ty k i nx g R (PC false k R nx g (intAt rs (off + i.toNat * 3)))) ?_ (fun _ _ h => h)
    (fun fs m hb => iN_good (fun c nx1 g1 row1 h => i_good hG.k64 hG.n200 hO ⟨hi, hlt⟩ hG.res hnx h.c0 h.pk) hb)
  rw [ext_all hG.size]
  refine ⟨fun _ => ?_, fun _ => rfl⟩
  have hsz := hG.size
  have hk64 := hG.k64
  obtain ⟨hr1, hr2, hr3⟩ := hG.res.at' i.toNat (by omega)
  obtain ⟨hlk, hop⟩ := hk
  obtain ⟨hI, h8, _, hj⟩ := g_in8 hG ⟨hnx.1, hlk⟩
  have h8' := h8
  unfold in8 at h8'
  have hA8 : decide (intAt R (at5 0 nx + 1) < 8) = true := decide_eq_true h8'.1.2
  have e1 : ari BinOp.add IntKind.i64 nx 1 = nx + 1 := add1 (by omega)
  simp only [same_regs, same_int, Nat.zero_add, hA8, e1]
  have hQ : ∀ t v, PC false k R nx g (intAt rs (off + i.toNat * 3)) 0 (nx + 1) ⟨selI (2 + t * 1) 2 v g.r0, selI (2 + t * 1) 3 v g.r1, selI (2 + t * 1) 4 v g.r2, selI (2 + t * 1) 5 v g.r3, selI (2 + t * 1) 6 v g.r4, selI (2 + t * 1) 7 v g.r5, selI (2 + t * 1) 8 v g.r6, selI (2 + t * 1) 9 v g.r7⟩ R := fun t v => ⟨rfl, pk_set t v (by omega)⟩
  clear hO
  repeat' first | exact trivial | exact hQ _ _ | exact iT_9 | exact iT_11 | exact rfl | exact hI | exact h8 | exact hop | exact h8'.1 | exact h8'.2.1 | exact h8'.2.2.1 | exact hr1 | exact hr2 | exact hr3 | exact hk | omega | (intro hh; exact Bool.noConfusion hh) | apply And.intro | (intro hh)
theorem go_k4 (hG : Given R k off n rs) (hO : ONext off n rs ty k R (i + 1)) (hi : 0 ≤ i) (hnx : 0 ≤ nx ∧ nx ≤ k) (hk : nx < k ∧ opOk 4 (intAt R (at5 0 nx))) :
    Good Try.prog (boolR true) 1 (oH off n k i) (oM true rs ty k nx g R) := by
  by_cases hlt : i < n
  case neg =>
    exact past_vc (EK_ok 4 4 [18]) 1000 (go_4 off n rs ty k i nx g R (fun _ _ _ _ => False)) ⟨fun h => (hlt (of_decide_eq_true h)).elim, fun _ => rfl⟩ (fun _ _ h => h)
      (fun fs m hb => iN_good (fun _ _ _ _ h => h.elim) hb)
  refine past_vc (EK_ok 4 4 [18]) 1000 (go_4 off n rs ty k i nx g R (PC false k R nx g (intAt rs (off + i.toNat * 3)))) ?_ (fun _ _ h => h)
    (fun fs m hb => iN_good (fun c nx1 g1 row1 h => i_good hG.k64 hG.n200 hO ⟨hi, hlt⟩ hG.res hnx h.c0 h.pk) hb)
  rw [ext_all hG.size]
  refine ⟨fun _ => ?_, fun _ => rfl⟩
  have hsz := hG.size
  have hk64 := hG.k64
  obtain ⟨hr1, hr2, hr3⟩ := hG.res.at' i.toNat (by omega)
  obtain ⟨hlk, hop⟩ := hk
  obtain ⟨hI, h8, _, hj⟩ := g_in8 hG ⟨hnx.1, hlk⟩
  have h8' := h8
  unfold in8 at h8'
  have hA8 : decide (intAt R (at5 0 nx + 1) < 8) = true := decide_eq_true h8'.1.2
  have e1 : ari BinOp.add IntKind.i64 nx 1 = nx + 1 := add1 (by omega)
  simp only [same_regs, same_int, Nat.zero_add, hA8, e1]
  have hQ : ∀ t v, PC false k R nx g (intAt rs (off + i.toNat * 3)) 0 (nx + 1) ⟨selI (2 + t * 1) 2 v g.r0, selI (2 + t * 1) 3 v g.r1, selI (2 + t * 1) 4 v g.r2, selI (2 + t * 1) 5 v g.r3, selI (2 + t * 1) 6 v g.r4, selI (2 + t * 1) 7 v g.r5, selI (2 + t * 1) 8 v g.r6, selI (2 + t * 1) 9 v g.r7⟩ R := fun t v => ⟨rfl, pk_set t v (by omega)⟩
  clear hO
  repeat' first | exact trivial | exact hQ _ _ | exact iT_9 | exact iT_11 | exact rfl | exact hI | exact h8 | exact hop | exact h8'.1 | exact h8'.2.1 | exact h8'.2.2.1 | exact hr1 | exact hr2 | exact hr3 | exact hk | omega | (intro hh; exact Bool.noConfusion hh) | apply And.intro | (intro hh)
theorem go_k5 (hG : Given R k off n rs) (hO : ONext off n rs ty k R (i + 1)) (hi : 0 ≤ i) (hnx : 0 ≤ nx ∧ nx ≤ k) (hk : nx < k ∧ opOk 5 (intAt R (at5 0 nx))) :
    Good Try.prog (boolR true) 1 (oH off n k i) (oM true rs ty k nx g R) := by
  by_cases hlt : i < n
  case neg =>
    exact past_vc (EK_ok 5 4 [18]) 1000 (go_5 off n rs ty k i nx g R (fun _ _ _ _ => False)) ⟨fun h => (hlt (of_decide_eq_true h)).elim, fun _ => rfl⟩ (fun _ _ h => h)
      (fun fs m hb => iN_good (fun _ _ _ _ h => h.elim) hb)
  refine past_vc (EK_ok 5 4 [18]) 1000 (go_5 off n rs ty k i nx g R (PC false k R nx g (intAt rs (off + i.toNat * 3)))) ?_ (fun _ _ h => h)
    (fun fs m hb => iN_good (fun c nx1 g1 row1 h => i_good hG.k64 hG.n200 hO ⟨hi, hlt⟩ hG.res hnx h.c0 h.pk) hb)
  rw [ext_all hG.size]
  refine ⟨fun _ => ?_, fun _ => rfl⟩
  have hsz := hG.size
  have hk64 := hG.k64
  obtain ⟨hr1, hr2, hr3⟩ := hG.res.at' i.toNat (by omega)
  obtain ⟨hlk, hop⟩ := hk
  obtain ⟨hI, h8, _, hj⟩ := g_in8 hG ⟨hnx.1, hlk⟩
  have h8' := h8
  unfold in8 at h8'
  have hA8 : decide (intAt R (at5 0 nx + 1) < 8) = true := decide_eq_true h8'.1.2
  have e1 : ari BinOp.add IntKind.i64 nx 1 = nx + 1 := add1 (by omega)
  simp only [same_regs, same_int, Nat.zero_add, hA8, e1]
  have hQ : ∀ t v, PC false k R nx g (intAt rs (off + i.toNat * 3)) 0 (nx + 1) ⟨selI (2 + t * 1) 2 v g.r0, selI (2 + t * 1) 3 v g.r1, selI (2 + t * 1) 4 v g.r2, selI (2 + t * 1) 5 v g.r3, selI (2 + t * 1) 6 v g.r4, selI (2 + t * 1) 7 v g.r5, selI (2 + t * 1) 8 v g.r6, selI (2 + t * 1) 9 v g.r7⟩ R := fun t v => ⟨rfl, pk_set t v (by omega)⟩
  clear hO
  repeat' first | exact trivial | exact hQ _ _ | exact iT_9 | exact iT_11 | exact rfl | exact hI | exact h8 | exact hop | exact h8'.1 | exact h8'.2.1 | exact h8'.2.2.1 | exact hr1 | exact hr2 | exact hr3 | exact hk | omega | (intro hh; exact Bool.noConfusion hh) | apply And.intro | (intro hh)
theorem go_k6 (hG : Given R k off n rs) (hO : ONext off n rs ty k R (i + 1)) (hi : 0 ≤ i) (hnx : 0 ≤ nx ∧ nx ≤ k) (hk : nx < k ∧ opOk 6 (intAt R (at5 0 nx))) :
    Good Try.prog (boolR true) 1 (oH off n k i) (oM true rs ty k nx g R) := by
  by_cases hlt : i < n
  case neg =>
    exact past_vc (EK_ok 6 4 [18]) 1000 (go_6 off n rs ty k i nx g R (fun _ _ _ _ => False)) ⟨fun h => (hlt (of_decide_eq_true h)).elim, fun _ => rfl⟩ (fun _ _ h => h)
      (fun fs m hb => iN_good (fun _ _ _ _ h => h.elim) hb)
  refine past_vc (EK_ok 6 4 [18]) 1000 (go_6 off n rs ty k i nx g R (PC false k R nx g (intAt rs (off + i.toNat * 3)))) ?_ (fun _ _ h => h)
    (fun fs m hb => iN_good (fun c nx1 g1 row1 h => i_good hG.k64 hG.n200 hO ⟨hi, hlt⟩ hG.res hnx h.c0 h.pk) hb)
  rw [ext_all hG.size]
  refine ⟨fun _ => ?_, fun _ => rfl⟩
  have hsz := hG.size
  have hk64 := hG.k64
  obtain ⟨hr1, hr2, hr3⟩ := hG.res.at' i.toNat (by omega)
  obtain ⟨hlk, hop⟩ := hk
  obtain ⟨hI, h8, _, hj⟩ := g_in8 hG ⟨hnx.1, hlk⟩
  have h8' := h8
  unfold in8 at h8'
  have hA8 : decide (intAt R (at5 0 nx + 1) < 8) = true := decide_eq_true h8'.1.2
  have e1 : ari BinOp.add IntKind.i64 nx 1 = nx + 1 := add1 (by omega)
  simp only [same_regs, same_int, Nat.zero_add, hA8, e1]
  have hQ : ∀ t v, PC false k R nx g (intAt rs (off + i.toNat * 3)) 0 (nx + 1) ⟨selI (2 + t * 1) 2 v g.r0, selI (2 + t * 1) 3 v g.r1, selI (2 + t * 1) 4 v g.r2, selI (2 + t * 1) 5 v g.r3, selI (2 + t * 1) 6 v g.r4, selI (2 + t * 1) 7 v g.r5, selI (2 + t * 1) 8 v g.r6, selI (2 + t * 1) 9 v g.r7⟩ R := fun t v => ⟨rfl, pk_set t v (by omega)⟩
  clear hO
  repeat' first | exact trivial | exact hQ _ _ | exact iT_9 | exact iT_11 | exact rfl | exact hI | exact h8 | exact hop | exact h8'.1 | exact h8'.2.1 | exact h8'.2.2.1 | exact hr1 | exact hr2 | exact hr3 | exact hk | omega | (intro hh; exact Bool.noConfusion hh) | apply And.intro | (intro hh)
theorem go_k7 (hG : Given R k off n rs) (hO : ONext off n rs ty k R (i + 1)) (hi : 0 ≤ i) (hnx : 0 ≤ nx ∧ nx ≤ k) (hk : nx < k ∧ opOk 7 (intAt R (at5 0 nx))) :
    Good Try.prog (boolR true) 1 (oH off n k i) (oM true rs ty k nx g R) := by
  by_cases hlt : i < n
  case neg =>
    exact past_vc (EK_ok 7 4 [18]) 1000 (go_7 off n rs ty k i nx g R (fun _ _ _ _ => False)) ⟨fun h => (hlt (of_decide_eq_true h)).elim, fun _ => rfl⟩ (fun _ _ h => h)
      (fun fs m hb => iN_good (fun _ _ _ _ h => h.elim) hb)
  refine past_vc (EK_ok 7 4 [18]) 1000 (go_7 off n rs ty k i nx g R (PC false k R nx g (intAt rs (off + i.toNat * 3)))) ?_ (fun _ _ h => h)
    (fun fs m hb => iN_good (fun c nx1 g1 row1 h => i_good hG.k64 hG.n200 hO ⟨hi, hlt⟩ hG.res hnx h.c0 h.pk) hb)
  rw [ext_all hG.size]
  refine ⟨fun _ => ?_, fun _ => rfl⟩
  have hsz := hG.size
  have hk64 := hG.k64
  obtain ⟨hr1, hr2, hr3⟩ := hG.res.at' i.toNat (by omega)
  obtain ⟨hlk, hop⟩ := hk
  obtain ⟨hI, h8, _, hj⟩ := g_in8 hG ⟨hnx.1, hlk⟩
  have h8' := h8
  unfold in8 at h8'
  have hA8 : decide (intAt R (at5 0 nx + 1) < 8) = true := decide_eq_true h8'.1.2
  have e1 : ari BinOp.add IntKind.i64 nx 1 = nx + 1 := add1 (by omega)
  simp only [same_regs, same_int, Nat.zero_add, hA8, e1]
  have hop' : intAt R (at5 0 nx) = 5 := hop.1
  have hjj := hj (by omega)
  rw [Go.IntWalk.i64_in (intAt R (at5 0 nx + 4)) (by omega)]
  have hQ : ∀ x : Int, 0 ≤ x ∧ x ≤ k → PC false k R nx g (intAt rs (off + i.toNat * 3)) 0 x ⟨g.r0, g.r1, g.r2, g.r3, g.r4, g.r5, g.r6, g.r7⟩ R := fun x h => ⟨rfl, pk_regs (fun h => by cases h) h⟩
  clear hO
  repeat' first | exact trivial | (refine hQ _ ?_; omega) | exact iT_9 | exact iT_11 | exact rfl | exact hI | exact h8 | exact hop | exact h8'.1 | exact h8'.2.1 | exact h8'.2.2.1 | exact hr1 | exact hr2 | exact hr3 | exact hk | omega | (intro hh; exact Bool.noConfusion hh) | apply And.intro | (intro hh)
theorem go_k8 (hG : Given R k off n rs) (hO : ONext off n rs ty k R (i + 1)) (hi : 0 ≤ i) (hnx : 0 ≤ nx ∧ nx ≤ k) (hk : nx < k ∧ opOk 8 (intAt R (at5 0 nx))) :
    Good Try.prog (boolR true) 1 (oH off n k i) (oM true rs ty k nx g R) := by
  by_cases hlt : i < n
  case neg =>
    exact past_vc (EK_ok 8 4 [18]) 1000 (go_8 off n rs ty k i nx g R (fun _ _ _ _ => False)) ⟨fun h => (hlt (of_decide_eq_true h)).elim, fun _ => rfl⟩ (fun _ _ h => h)
      (fun fs m hb => iN_good (fun _ _ _ _ h => h.elim) hb)
  refine past_vc (EK_ok 8 4 [18]) 1000 (go_8 off n rs ty k i nx g R (PC false k R nx g (intAt rs (off + i.toNat * 3)))) ?_ (fun _ _ h => h)
    (fun fs m hb => iN_good (fun c nx1 g1 row1 h => i_good hG.k64 hG.n200 hO ⟨hi, hlt⟩ hG.res hnx h.c0 h.pk) hb)
  rw [ext_all hG.size]
  refine ⟨fun _ => ?_, fun _ => rfl⟩
  have hsz := hG.size
  have hk64 := hG.k64
  obtain ⟨hr1, hr2, hr3⟩ := hG.res.at' i.toNat (by omega)
  obtain ⟨hlk, hop⟩ := hk
  obtain ⟨hI, h8, _, hj⟩ := g_in8 hG ⟨hnx.1, hlk⟩
  have h8' := h8
  unfold in8 at h8'
  have hA8 : decide (intAt R (at5 0 nx + 1) < 8) = true := decide_eq_true h8'.1.2
  have e1 : ari BinOp.add IntKind.i64 nx 1 = nx + 1 := add1 (by omega)
  simp only [same_regs, same_int, Nat.zero_add, hA8, e1]
  have hop' : intAt R (at5 0 nx) = 6 := hop.1
  have hjj := hj (by omega)
  rw [Go.IntWalk.i64_in (intAt R (at5 0 nx + 4)) (by omega)]
  have hQ : ∀ x : Int, 0 ≤ x ∧ x ≤ k → PC false k R nx g (intAt rs (off + i.toNat * 3)) 0 x ⟨g.r0, g.r1, g.r2, g.r3, g.r4, g.r5, g.r6, g.r7⟩ R := fun x h => ⟨rfl, pk_regs (fun h => by cases h) h⟩
  clear hO
  repeat' first | exact trivial | (refine hQ _ ?_; omega) | exact iT_9 | exact iT_11 | exact rfl | exact hI | exact h8 | exact hop | exact h8'.1 | exact h8'.2.1 | exact h8'.2.2.1 | exact hr1 | exact hr2 | exact hr3 | exact hk | omega | (intro hh; exact Bool.noConfusion hh) | apply And.intro | (intro hh)
theorem go_round (hG : Given R k off n rs) : ∀ (K : Nat) (i nx : Int) (g : Rg), (n : Int) - i < K → 0 ≤ i → i ≤ n → 0 ≤ nx → nx ≤ k → Good Try.prog (boolR true) 1 (oH off n k i) (oM true rs ty k nx g R) := by
  intro K
  induction K with
  | zero => intro i nx g h1 h2 h3; omega
  | succ K ih =>
    intro i nx g h1 h2 h3 h4 h5
    by_cases hin : i < n
    case neg =>
      exact past_vc (EK_ok 0 4 [18]) 1000 (go_0 off n rs ty k i nx g R (fun _ _ _ _ => False)) ⟨fun h => (hin (of_decide_eq_true h)).elim, fun _ => rfl⟩ (fun _ _ h => h) (fun fs m hb => iN_good (fun _ _ _ _ h => h.elim) hb)
    have hO : ONext off n rs ty k R (i + 1) := ⟨fun nx g a b => ih (i + 1) nx g (by omega) (by omega) (by omega) a b⟩
    by_cases hb : (k : Int) ≤ nx
    · exact go_k0 hG hO h2 ⟨h4, h5⟩ hb
    have hlk : nx < k := by omega
    obtain ⟨_, _, hop, _⟩ := g_in8 hG ⟨h4, hlk⟩
    generalize hx : intAt R (at5 0 nx) = x at hop
    have cases9 : x = 0 ∨ (16 < x ∧ x ≤ 38) ∨ x = 1 ∨ x = 2 ∨ x = 3 ∨ x = 4 ∨ x = 5 ∨ x = 6 := by omega
    rcases cases9 with h | h | h | h | h | h | h | h
    · exact go_k1 hG hO h2 ⟨h4, h5⟩ ⟨hlk, by rw [hx, h]; exact rfl⟩
    · exact go_k2 hG hO h2 ⟨h4, h5⟩ ⟨hlk, by rw [hx]; exact h⟩
    · exact go_k3 hG hO h2 ⟨h4, h5⟩ ⟨hlk, by rw [hx, h]; exact ⟨rfl, by decide, by decide⟩⟩
    · exact go_k4 hG hO h2 ⟨h4, h5⟩ ⟨hlk, by rw [hx, h]; exact ⟨rfl, by decide, by decide⟩⟩
    · exact go_k5 hG hO h2 ⟨h4, h5⟩ ⟨hlk, by rw [hx, h]; exact ⟨rfl, by decide, by decide⟩⟩
    · exact go_k6 hG hO h2 ⟨h4, h5⟩ ⟨hlk, by rw [hx, h]; exact ⟨rfl, by decide, by decide⟩⟩
    · exact go_k7 hG hO h2 ⟨h4, h5⟩ ⟨hlk, by rw [hx, h]; exact ⟨rfl, by decide, by decide⟩⟩
    · exact go_k8 hG hO h2 ⟨h4, h5⟩ ⟨hlk, by rw [hx, h]; exact ⟨rfl, by decide, by decide⟩⟩
/-- With no program. -/
theorem z_round (hn : n ≤ 200) (hr : ResOk rs off n) : ∀ (K : Nat) (i : Int), (n : Int) - i < K → 0 ≤ i → i ≤ n → Good Try.prog (boolR true) 1 (zH off n i) (zM rs ty) := by
  intro K
  induction K with
  | zero => intro i h1 h2 h3; omega
  | succ K ih =>
    intro i h1 h2 h3
    refine past_vc (EK_ok 0 4 [8]) 3000 (go_z1 off n rs ty i (fun i' => i' = i + 1 ∧ i < n)) ?_ (fun _ _ h => h) (fun fs m hb => zN_good (fun i' ⟨e, hlt⟩ => by rw [e]; exact ih (i + 1) (by omega) (by omega) (by omega)) hb)
    refine ⟨fun h => ?_, fun _ => rfl⟩
    have hlt := of_decide_eq_true h
    obtain ⟨a, b, c⟩ := hr.at' i.toNat (by omega)
    rw [add1 (by omega)]
    refine ⟨⟨⟨h2, hlt⟩, trivial⟩, ⟨a, b, c, trivial⟩, ⟨rfl, hlt⟩, ?_⟩
    repeat' first | exact trivial | exact oH_1 | exact rfl | apply And.intro
end
end Go.Proofs.Ytkidmmgkfopecaa
/- Of task: TaskPlays' runs end with true. No condition. -/
namespace Go.Proofs.Ytkidmmgkfopecaa
set_option maxRecDepth 100000
set_option linter.unusedSectionVars false
def W64 (x : Int) : Prop := 0 ≤ x ∧ x < 18446744073709551616
theorem w64_wrap (x : Int) : W64 (IntKind.u64.wrap x) := by
  show 0 ≤ x % 18446744073709551616 ∧ x % 18446744073709551616 < 18446744073709551616
  omega
structure Rg.In (g : Rg) : Prop where
  i0 : W64 g.r0
  i1 : W64 g.r1
  i2 : W64 g.r2
  i3 : W64 g.r3
  i4 : W64 g.r4
  i5 : W64 g.r5
  i6 : W64 g.r6
  i7 : W64 g.r7
theorem sel_in {k j : Nat} {v r : Int} (hv : W64 v) (hr : W64 r) : W64 (selI k j v r) := by
  unfold selI
  split
  · exact hv
  · exact hr
theorem at_in {g : Rg} (h : g.In) (i : Nat) : W64 (g.at i) := by
  unfold Rg.at intL
  match i with
  | 0 => exact h.i0
  | 1 => exact h.i1
  | 2 => exact h.i2
  | 3 => exact h.i3
  | 4 => exact h.i4
  | 5 => exact h.i5
  | 6 => exact h.i6
  | 7 => exact h.i7
  | i + 8 => exact (show W64 0 from ⟨Int.le_refl 0, by decide⟩)
theorem in_set {g : Rg} (h : g.In) (t : Nat) {v : Int} (hv : W64 v) : Rg.In ⟨selI (2 + t) 2 v g.r0, selI (2 + t) 3 v g.r1, selI (2 + t) 4 v g.r2, selI (2 + t) 5 v g.r3, selI (2 + t) 6 v g.r4, selI (2 + t) 7 v g.r5, selI (2 + t) 8 v g.r6, selI (2 + t) 9 v g.r7⟩ :=
  ⟨sel_in hv h.i0, sel_in hv h.i1, sel_in hv h.i2, sel_in hv h.i3, sel_in hv h.i4, sel_in hv h.i5, sel_in hv h.i6, sel_in hv h.i7⟩
theorem in_call {g : Rg} (h : g.In) (t : Nat) {v x y : Int} (hv : W64 v) (hx : W64 x) (hy : W64 y) : Rg.In ⟨selI (2 + t) 2 v g.r0, selI (2 + t) 3 v g.r1, selI (2 + t) 4 v g.r2, selI (2 + t) 5 v g.r3, x, selI (2 + t) 7 v g.r5, selI (2 + t) 8 v g.r6, y⟩ :=
  ⟨sel_in hv h.i0, sel_in hv h.i1, sel_in hv h.i2, sel_in hv h.i3, hx, sel_in hv h.i5, sel_in hv h.i6, hy⟩
theorem eta_rg (g : Rg) : Rg.mk g.r0 g.r1 g.r2 g.r3 g.r4 g.r5 g.r6 g.r7 = g := rfl
theorem at_rg (g : Rg) (i : Nat) : intL [g.r0, g.r1, g.r2, g.r3, g.r4, g.r5, g.r6, g.r7] i = g.at i := rfl
theorem low_eq {x : Int} (h : W64 x) : IntKind.i64.wrap (w32 x) = lowW x := by
  obtain ⟨h1, h2⟩ := h
  have e1 : w32 x = x % 4294967296 := rfl
  have e2 : ari .rem .u64 x 4294967296 = x % 4294967296 := by rw [ari_rem, Int.tmod_eq_emod_of_nonneg h1]
  unfold lowW
  rw [e1, e2]
theorem op_eq {x : Int} (h : 16 < x ∧ x ≤ 38) : IntKind.i64.wrap (ari .sub .u8 x 16) = ari .sub .i64 x 16 := by
  rw [ari_sub, ari_sub, Go.IntWalk.u8_in _ (by omega)]
theorem n_eq {x : Int} (h : 0 ≤ x ∧ x ≤ 65535) : IntKind.i64.wrap (w32 x) = x := by
  have e1 : w32 x = x % 4294967296 := rfl
  rw [e1, Go.IntWalk.i64_in _ (by omega)]
  omega
theorem pTd_head : headL pTd = pHd := by kernel_rfl
theorem pF_head {off n : Nat} {i : Int} : headF (pF off n i) = pH off n i := by
  show [(⟨3, _, headL pTd, [], .run, .normal, none⟩ : SFr)] = _
  rw [pTd_head]; rfl
theorem zPF_head {off n : Nat} {i : Int} : headF (zPF off n i) = zPH off n i := by
  show [(⟨3, _, headL pTd, [], .run, .normal, none⟩ : SFr)] = _
  rw [pTd_head]; rfl
section
variable {off n : Nat} {rs : Array Value} {ty : TypeId} {k : Nat}
theorem pN_good {h : Bool} {A : SV → SMem → Prop} {Q : Int → Int → Rg → Array Value → Array Value → Prop} (hg : ∀ i nx g row rrow, Q i nx g row rrow → Good Try.prog A 1 (pH off n i) (pM rs ty k nx g row rrow)) {fs : List SFr} {m : SMem} (hb : pN h off n rs ty k Q fs m) : Good Try.prog A 1 fs m := by
  unfold pN at hb
  split at hb
  · split at hb
    · split at hb
      · split at hb
        · cases h with
          | true => exact Good.of_sub hb.2 (hg _ _ _ _ _ hb.1)
          | false => exact Good.of_sub hb.2 (Good.head (by rw [show (cond false pH pF) off n = pF off n from rfl, pF_head]; exact hg _ _ _ _ _ hb.1))
        · exact hb.elim
      · exact hb.elim
    · exact hb.elim
  · exact hb.elim
theorem zPN_good {h : Bool} {A : SV → SMem → Prop} {Q : Int → Prop} (hg : ∀ i, Q i → Good Try.prog A 1 (zPH off n i) (zPM rs ty)) {fs : List SFr} {m : SMem} (hb : zPN h off n rs ty Q fs m) : Good Try.prog A 1 fs m := by
  unfold zPN at hb
  split at hb
  · split at hb
    · cases h with
      | true => exact Good.of_sub hb.2 (hg _ hb.1)
      | false => exact Good.of_sub hb.2 (Good.head (by rw [show (cond false zPH zPF) off n = zPF off n from rfl, zPF_head]; exact hg _ hb.1))
    · exact hb.elim
  · exact hb.elim
theorem pT_1 : TodoOk (ren 1 [(1, 3), (2, 2), (3, 5), (4, 4)]) pTd pTd := TodoOk.same (by kernel_rfl)
theorem pT_2 : TodoOk (ren 1 [(1, 2), (2, 3)]) pTd pTd := TodoOk.same (by kernel_rfl)
theorem pH_2 : TodoOk (ren 1 [(1, 1), (2, 2)]) pHd pHd := TodoOk.same (by kernel_rfl)
theorem td_3 : TodoOk (ren 1 [(1, 1), (2, 23), (3, 3), (4, 4)]) pHd pHd := TodoOk.same (by kernel_rfl)
theorem td_4 : TodoOk (ren 1 [(1, 1), (2, 12), (3, 3), (4, 4)]) pHd pHd := TodoOk.same (by kernel_rfl)
theorem td_5 : TodoOk (ren 1 [(1, 1), (2, 2), (3, 3), (4, 4), (5, 5), (6, 6), (7, 7), (8, 8), (9, 9), (10, 10), (11, 11), (12, 12), (13, 13), (14, 14), (15, 15), (16, 16), (17, 17), (18, 18), (19, 19)]) t6a t6a := TodoOk.same (by kernel_rfl)
theorem td_6 : TodoOk (ren 1 [(1, 1), (2, 2), (3, 3), (4, 4), (5, 5), (6, 6), (7, 7), (8, 8), (9, 9), (10, 10), (11, 11), (12, 12), (13, 13), (14, 14), (15, 15), (16, 16), (17, 17), (18, 18), (19, 19)]) t6b t6b := TodoOk.same (by kernel_rfl)
theorem td_7 : TodoOk (ren 1 [(1, 1), (2, 2), (3, 3), (4, 4), (5, 5), (6, 6), (7, 7), (8, 8), (9, 9), (10, 10), (11, 11), (12, 12), (13, 13), (14, 14), (15, 15), (16, 16), (17, 17), (18, 18), (19, 19)]) h6a h6a := TodoOk.same (by kernel_rfl)
structure GivP (row rrow : Array Value) (k off n : Nat) (rs : Array Value) : Prop where
  g : Given row k off n rs
  rr : ∀ i, i < k → RowAt rrow (0 + i * 5) ∧ ins rrow 0 i = ins row 0 i
  rng : ∀ i, i < n → W64 (intAt rs (off + i * 3 + 1)) ∧ (0 ≤ intAt rs (off + i * 3 + 2) ∧ intAt rs (off + i * 3 + 2) ≤ 4294967295)
/-- What a round leaves. -/
structure QP (k : Nat) (row rrow : Array Value) (i0 : Int) (i nx : Int) (g : Rg) (row' rrow' : Array Value) : Prop where
  e1 : i = i0
  lo : 0 ≤ nx
  hi : nx ≤ k
  inn : g.In
  e2 : row' = row
  e3 : rrow' = rrow
structure PNext (off n : Nat) (rs : Array Value) (ty : TypeId) (k : Nat) (row rrow : Array Value) (i : Int) : Prop where
  good : ∀ (nx : Int) (g : Rg), 0 ≤ nx → nx ≤ k → g.In → Good Try.prog (boolR true) 1 (pH off n i) (pM rs ty k nx g row rrow)
variable {i nx : Int} {g : Rg} {row rrow : Array Value}
theorem next_of (hO : PNext off n rs ty k row rrow (i + 1)) {h : Bool} {fs : List SFr} {m : SMem} (hb : pN h off n rs ty k (QP k row rrow (i + 1)) fs m) : Good Try.prog (boolR true) 1 fs m :=
  pN_good (fun i' nx' g' row' rrow' ⟨e1, lo, hi, inn, e2, e3⟩ => by rw [e1, e2, e3]; exact hO.good nx' g' lo hi inn) hb
theorem rr_at (h : GivP row rrow k off n rs) (hx : 0 ≤ nx ∧ nx < k) : RowAt rrow (nx.toNat * 5) ∧ intAt rrow (nx.toNat * 5) = intAt row (nx.toNat * 5) ∧ intAt rrow (nx.toNat * 5 + 1) = intAt row (nx.toNat * 5 + 1) ∧ intAt rrow (nx.toNat * 5 + 2) = intAt row (nx.toNat * 5 + 2) ∧ intAt rrow (nx.toNat * 5 + 3) = intAt row (nx.toNat * 5 + 3) ∧ intAt rrow (nx.toNat * 5 + 4) = intAt row (nx.toNat * 5 + 4) := by
  obtain ⟨h1, h2⟩ := h.rr nx.toNat (by omega)
  unfold Proofs.Ytkidmmgkfopecaa.ins at h2
  injection h2 with a0 a1 a2 a3 a4
  rw [Nat.zero_add] at h1 a0 a1 a2 a3 a4
  exact ⟨h1, a0, a1, a2, a3, a4⟩
theorem in8_at (h : GivP row rrow k off n rs) (hx : 0 ≤ nx ∧ nx < k) : InsAt row (nx.toNat * 5) ∧ in8 row (nx.toNat * 5) ∧ ((intAt row (nx.toNat * 5) = 5 ∨ intAt row (nx.toNat * 5) = 6) → intAt row (nx.toNat * 5 + 4) < k) := by
  obtain ⟨h1, h2, _, h3⟩ := g_in8 h.g hx
  simp only [at5, Nat.zero_add] at h1 h2 h3
  exact ⟨h1, h2, h3⟩
theorem pk_0 (h : GivP row rrow k off n rs) (hO : PNext off n rs ty k row rrow (i + 1)) (hi : 0 ≤ i) (hlt : i < n) (hnx : 0 ≤ nx ∧ nx ≤ k) (hg : g.In) (hk : (k : Int) ≤ nx) :
    Good Try.prog (boolR true) 1 (pH off n i) (pM rs ty k nx g row rrow) := by
  have hk64 := h.g.k64
  have hn200 := h.g.n200
  have hsz := h.g.size
  have hext : Array.extract row 0 (k * 5) = row := by rw [← hsz, Array.extract_size]
  obtain ⟨hr1, hr2, hr3⟩ := h.g.res.at' i.toNat (by omega)
  obtain ⟨hv, hw⟩ := h.rng i.toNat (by omega)
  have hdi : decide (i < (n : Int)) = true := decide_eq_true hlt
  have ei : ari BinOp.add IntKind.i64 i 1 = i + 1 := add1 (by omega)
  have hW : IntKind.i64.wrap (intAt rs (off + i.toNat * 3 + 2)) = intAt rs (off + i.toNat * 3 + 2) := Go.IntWalk.i64_in _ (by omega)
  refine past_way (EP_ok 0 true false) 1000 (pl_0 off n rs ty k i nx g row rrow (QP k row rrow (i + 1))) ?_ (fun _ _ h => h) (fun fs m hb => next_of hO hb)
  have hQ : QP k row rrow (i + 1) (i + 1) nx g row rrow := ⟨rfl, hnx.1, hnx.2, hg, rfl, rfl⟩
  simp only [at5, Nat.zero_add, Nat.mul_one, Nat.add_sub_cancel_left, hext, eta_rg, at_rg, ei, hW, beq_self_eq_true, Bool.and_true, Bool.and_self, Bool.not_true]
  clear hO
  repeat' first | exact trivial | exact hQ | exact rfl | exact hdi | exact hr1 | exact hr2 | exact hr3 | exact hk | exact decide_eq_true hk | exact pT_1 | exact pT_2 | exact pH_2 | exact td_3 | exact td_4 | exact td_5 | exact td_6 | exact td_7 | omega | decide | apply And.intro
theorem pk_1 (h : GivP row rrow k off n rs) (hO : PNext off n rs ty k row rrow (i + 1)) (hi : 0 ≤ i) (hlt : i < n) (hnx : 0 ≤ nx ∧ nx ≤ k) (hg : g.In) (hk : nx < k ∧ intAt row (nx.toNat * 5) = 0) :
    Good Try.prog (boolR true) 1 (pH off n i) (pM rs ty k nx g row rrow) := by
  have hk64 := h.g.k64
  have hn200 := h.g.n200
  have hsz := h.g.size
  have hext : Array.extract row 0 (k * 5) = row := by rw [← hsz, Array.extract_size]
  obtain ⟨hr1, hr2, hr3⟩ := h.g.res.at' i.toNat (by omega)
  obtain ⟨hv, hw⟩ := h.rng i.toNat (by omega)
  have hdi : decide (i < (n : Int)) = true := decide_eq_true hlt
  have ei : ari BinOp.add IntKind.i64 i 1 = i + 1 := add1 (by omega)
  have hW : IntKind.i64.wrap (intAt rs (off + i.toNat * 3 + 2)) = intAt rs (off + i.toNat * 3 + 2) := Go.IntWalk.i64_in _ (by omega)
  obtain ⟨hlk, hop⟩ := hk
  obtain ⟨hI, h8, hj⟩ := in8_at h ⟨hnx.1, hlk⟩
  obtain ⟨hR, e0, e1, e2, e3, e4⟩ := rr_at h ⟨hnx.1, hlk⟩
  have h8R : in8 rrow (nx.toNat * 5) := by
    unfold in8
    rw [e1, e2, e3, e4]
    exact h8
  obtain ⟨i1, i2, i3, i4, i5⟩ := hR
  have hRR : RowAt rrow (nx.toNat * 5) := ⟨i1, i2, i3, i4, i5⟩
  have h8' := h8
  unfold in8 at h8'
  have hA8 : decide (intAt row (nx.toNat * 5 + 1) < 8) = true := decide_eq_true h8'.1.2
  have en : ari BinOp.add IntKind.i64 nx 1 = nx + 1 := add1 (by omega)
  have h4 : IntKind.i64.wrap (intAt row (nx.toNat * 5 + 4)) = intAt row (nx.toNat * 5 + 4) := Go.IntWalk.i64_in _ (by omega)
  have hnk : decide (nx ≥ (k : Int)) = false := decide_eq_false (by omega)
  have hx0 : intAt row (nx.toNat * 5) = 0 := hop
  refine past_way (EP_ok 1 true false) 1000 (pl_1 off n rs ty k i nx g row rrow (QP k row rrow (i + 1))) ?_ (fun _ _ h => h) (fun fs m hb => next_of hO hb)
  have hQ : ∀ t : Nat, QP k row rrow (i + 1) (i + 1) (nx + 1) ⟨selI (2 + t) 2 (intAt rs (off + i.toNat * 3 + 1)) g.r0, selI (2 + t) 3 (intAt rs (off + i.toNat * 3 + 1)) g.r1, selI (2 + t) 4 (intAt rs (off + i.toNat * 3 + 1)) g.r2, selI (2 + t) 5 (intAt rs (off + i.toNat * 3 + 1)) g.r3, IntKind.u64.wrap (intAt rs (off + i.toNat * 3 + 2)), selI (2 + t) 7 (intAt rs (off + i.toNat * 3 + 1)) g.r5, selI (2 + t) 8 (intAt rs (off + i.toNat * 3 + 1)) g.r6, IntKind.u64.wrap (intAt rs (off + i.toNat * 3))⟩ row rrow := fun t => ⟨rfl, by omega, by omega, in_call hg t hv (w64_wrap _) (w64_wrap _), rfl, rfl⟩
  simp only [at5, Nat.zero_add, Nat.mul_one, Nat.add_sub_cancel_left, hext, eta_rg, at_rg, ei, hW, beq_self_eq_true, Bool.and_true, Bool.and_self, Bool.not_true, e0, e1, e2, e3, e4, en, h4, hA8, hx0]
  clear hO
  repeat' first | exact trivial | exact hQ _ | exact rfl | exact hdi | exact hr1 | exact hr2 | exact hr3 | exact hI | exact hRR | exact h8 | exact h8R | exact hnk | exact i1 | exact i2 | exact i3 | exact i4 | exact i5 | exact pT_1 | exact pT_2 | exact pH_2 | exact td_3 | exact td_4 | exact td_5 | exact td_6 | exact td_7 | omega | decide | apply And.intro
theorem pk_2 (h : GivP row rrow k off n rs) (hO : PNext off n rs ty k row rrow (i + 1)) (hi : 0 ≤ i) (hlt : i < n) (hnx : 0 ≤ nx ∧ nx ≤ k) (hg : g.In) (hk : nx < k ∧ (16 < intAt row (nx.toNat * 5) ∧ intAt row (nx.toNat * 5) ≤ 38)) :
    Good Try.prog (boolR true) 1 (pH off n i) (pM rs ty k nx g row rrow) := by
  have hk64 := h.g.k64
  have hn200 := h.g.n200
  have hsz := h.g.size
  have hext : Array.extract row 0 (k * 5) = row := by rw [← hsz, Array.extract_size]
  obtain ⟨hr1, hr2, hr3⟩ := h.g.res.at' i.toNat (by omega)
  obtain ⟨hv, hw⟩ := h.rng i.toNat (by omega)
  have hdi : decide (i < (n : Int)) = true := decide_eq_true hlt
  have ei : ari BinOp.add IntKind.i64 i 1 = i + 1 := add1 (by omega)
  have hW : IntKind.i64.wrap (intAt rs (off + i.toNat * 3 + 2)) = intAt rs (off + i.toNat * 3 + 2) := Go.IntWalk.i64_in _ (by omega)
  obtain ⟨hlk, hop⟩ := hk
  obtain ⟨hI, h8, hj⟩ := in8_at h ⟨hnx.1, hlk⟩
  obtain ⟨hR, e0, e1, e2, e3, e4⟩ := rr_at h ⟨hnx.1, hlk⟩
  have h8R : in8 rrow (nx.toNat * 5) := by
    unfold in8
    rw [e1, e2, e3, e4]
    exact h8
  obtain ⟨i1, i2, i3, i4, i5⟩ := hR
  have hRR : RowAt rrow (nx.toNat * 5) := ⟨i1, i2, i3, i4, i5⟩
  have h8' := h8
  unfold in8 at h8'
  have hA8 : decide (intAt row (nx.toNat * 5 + 1) < 8) = true := decide_eq_true h8'.1.2
  have en : ari BinOp.add IntKind.i64 nx 1 = nx + 1 := add1 (by omega)
  have h4 : IntKind.i64.wrap (intAt row (nx.toNat * 5 + 4)) = intAt row (nx.toNat * 5 + 4) := Go.IntWalk.i64_in _ (by omega)
  have hnk : decide (nx ≥ (k : Int)) = false := decide_eq_false (by omega)
  have hop : 16 < intAt row (nx.toNat * 5) ∧ intAt row (nx.toNat * 5) ≤ 38 := hop
  refine past_way (EP_ok 2 true false) 1000 (pl_2 off n rs ty k i nx g row rrow (QP k row rrow (i + 1))) ?_ (fun _ _ h => h) (fun fs m hb => next_of hO hb)
  have hQ : ∀ t : Nat, QP k row rrow (i + 1) (i + 1) (nx + 1) ⟨selI (2 + t) 2 (intAt rs (off + i.toNat * 3 + 1)) g.r0, selI (2 + t) 3 (intAt rs (off + i.toNat * 3 + 1)) g.r1, selI (2 + t) 4 (intAt rs (off + i.toNat * 3 + 1)) g.r2, selI (2 + t) 5 (intAt rs (off + i.toNat * 3 + 1)) g.r3, IntKind.u64.wrap (intAt rs (off + i.toNat * 3 + 2)), selI (2 + t) 7 (intAt rs (off + i.toNat * 3 + 1)) g.r5, selI (2 + t) 8 (intAt rs (off + i.toNat * 3 + 1)) g.r6, IntKind.u64.wrap (intAt rs (off + i.toNat * 3))⟩ row rrow := fun t => ⟨rfl, by omega, by omega, in_call hg t hv (w64_wrap _) (w64_wrap _), rfl, rfl⟩
  simp only [at5, Nat.zero_add, Nat.mul_one, Nat.add_sub_cancel_left, hext, eta_rg, at_rg, ei, hW, beq_self_eq_true, Bool.and_true, Bool.and_self, Bool.not_true, e0, e1, e2, e3, e4, en, h4, hA8, op_eq hop, low_eq (at_in hg _), low_eq hg.i6, n_eq h8'.2.2.2]
  clear hO
  repeat' first | exact trivial | exact hQ _ | exact rfl | exact hdi | exact hr1 | exact hr2 | exact hr3 | exact hI | exact hRR | exact h8 | exact h8R | exact hnk | exact i1 | exact i2 | exact i3 | exact i4 | exact i5 | exact hop | exact pT_1 | exact pT_2 | exact pH_2 | exact td_3 | exact td_4 | exact td_5 | exact td_6 | exact td_7 | omega | decide | apply And.intro
theorem pk_3 (h : GivP row rrow k off n rs) (hO : PNext off n rs ty k row rrow (i + 1)) (hi : 0 ≤ i) (hlt : i < n) (hnx : 0 ≤ nx ∧ nx ≤ k) (hg : g.In) (hk : nx < k ∧ intAt row (nx.toNat * 5) = 1) :
    Good Try.prog (boolR true) 1 (pH off n i) (pM rs ty k nx g row rrow) := by
  have hk64 := h.g.k64
  have hn200 := h.g.n200
  have hsz := h.g.size
  have hext : Array.extract row 0 (k * 5) = row := by rw [← hsz, Array.extract_size]
  obtain ⟨hr1, hr2, hr3⟩ := h.g.res.at' i.toNat (by omega)
  obtain ⟨hv, hw⟩ := h.rng i.toNat (by omega)
  have hdi : decide (i < (n : Int)) = true := decide_eq_true hlt
  have ei : ari BinOp.add IntKind.i64 i 1 = i + 1 := add1 (by omega)
  have hW : IntKind.i64.wrap (intAt rs (off + i.toNat * 3 + 2)) = intAt rs (off + i.toNat * 3 + 2) := Go.IntWalk.i64_in _ (by omega)
  obtain ⟨hlk, hop⟩ := hk
  obtain ⟨hI, h8, hj⟩ := in8_at h ⟨hnx.1, hlk⟩
  obtain ⟨hR, e0, e1, e2, e3, e4⟩ := rr_at h ⟨hnx.1, hlk⟩
  have h8R : in8 rrow (nx.toNat * 5) := by
    unfold in8
    rw [e1, e2, e3, e4]
    exact h8
  obtain ⟨i1, i2, i3, i4, i5⟩ := hR
  have hRR : RowAt rrow (nx.toNat * 5) := ⟨i1, i2, i3, i4, i5⟩
  have h8' := h8
  unfold in8 at h8'
  have hA8 : decide (intAt row (nx.toNat * 5 + 1) < 8) = true := decide_eq_true h8'.1.2
  have en : ari BinOp.add IntKind.i64 nx 1 = nx + 1 := add1 (by omega)
  have h4 : IntKind.i64.wrap (intAt row (nx.toNat * 5 + 4)) = intAt row (nx.toNat * 5 + 4) := Go.IntWalk.i64_in _ (by omega)
  have hnk : decide (nx ≥ (k : Int)) = false := decide_eq_false (by omega)
  have hx0 : intAt row (nx.toNat * 5) = 1 := hop
  refine past_way (EP_ok 3 true false) 1000 (pl_3 off n rs ty k i nx g row rrow (QP k row rrow (i + 1))) ?_ (fun _ _ h => h) (fun fs m hb => next_of hO hb)
  have hQ : ∀ (t : Nat) (v : Int), W64 v → QP k row rrow (i + 1) (i + 1) (nx + 1) ⟨selI (2 + t) 2 v g.r0, selI (2 + t) 3 v g.r1, selI (2 + t) 4 v g.r2, selI (2 + t) 5 v g.r3, selI (2 + t) 6 v g.r4, selI (2 + t) 7 v g.r5, selI (2 + t) 8 v g.r6, selI (2 + t) 9 v g.r7⟩ row rrow := fun t v hv => ⟨rfl, by omega, by omega, in_set hg t hv, rfl, rfl⟩
  simp only [at5, Nat.zero_add, Nat.mul_one, Nat.add_sub_cancel_left, hext, eta_rg, at_rg, ei, hW, beq_self_eq_true, Bool.and_true, Bool.and_self, Bool.not_true, e0, e1, e2, e3, e4, en, h4, hA8, hx0]
  clear hO
  repeat' first | exact trivial | exact hQ _ _ (w64_wrap _) | exact rfl | exact hdi | exact hr1 | exact hr2 | exact hr3 | exact hI | exact hRR | exact h8 | exact h8R | exact hnk | exact i1 | exact i2 | exact i3 | exact i4 | exact i5 | exact pT_1 | exact pT_2 | exact pH_2 | exact td_3 | exact td_4 | exact td_5 | exact td_6 | exact td_7 | omega | decide | apply And.intro
theorem pk_4 (h : GivP row rrow k off n rs) (hO : PNext off n rs ty k row rrow (i + 1)) (hi : 0 ≤ i) (hlt : i < n) (hnx : 0 ≤ nx ∧ nx ≤ k) (hg : g.In) (hk : nx < k ∧ intAt row (nx.toNat * 5) = 2) :
    Good Try.prog (boolR true) 1 (pH off n i) (pM rs ty k nx g row rrow) := by
  have hk64 := h.g.k64
  have hn200 := h.g.n200
  have hsz := h.g.size
  have hext : Array.extract row 0 (k * 5) = row := by rw [← hsz, Array.extract_size]
  obtain ⟨hr1, hr2, hr3⟩ := h.g.res.at' i.toNat (by omega)
  obtain ⟨hv, hw⟩ := h.rng i.toNat (by omega)
  have hdi : decide (i < (n : Int)) = true := decide_eq_true hlt
  have ei : ari BinOp.add IntKind.i64 i 1 = i + 1 := add1 (by omega)
  have hW : IntKind.i64.wrap (intAt rs (off + i.toNat * 3 + 2)) = intAt rs (off + i.toNat * 3 + 2) := Go.IntWalk.i64_in _ (by omega)
  obtain ⟨hlk, hop⟩ := hk
  obtain ⟨hI, h8, hj⟩ := in8_at h ⟨hnx.1, hlk⟩
  obtain ⟨hR, e0, e1, e2, e3, e4⟩ := rr_at h ⟨hnx.1, hlk⟩
  have h8R : in8 rrow (nx.toNat * 5) := by
    unfold in8
    rw [e1, e2, e3, e4]
    exact h8
  obtain ⟨i1, i2, i3, i4, i5⟩ := hR
  have hRR : RowAt rrow (nx.toNat * 5) := ⟨i1, i2, i3, i4, i5⟩
  have h8' := h8
  unfold in8 at h8'
  have hA8 : decide (intAt row (nx.toNat * 5 + 1) < 8) = true := decide_eq_true h8'.1.2
  have en : ari BinOp.add IntKind.i64 nx 1 = nx + 1 := add1 (by omega)
  have h4 : IntKind.i64.wrap (intAt row (nx.toNat * 5 + 4)) = intAt row (nx.toNat * 5 + 4) := Go.IntWalk.i64_in _ (by omega)
  have hnk : decide (nx ≥ (k : Int)) = false := decide_eq_false (by omega)
  have hx0 : intAt row (nx.toNat * 5) = 2 := hop
  refine past_way (EP_ok 4 true false) 1000 (pl_4 off n rs ty k i nx g row rrow (QP k row rrow (i + 1))) ?_ (fun _ _ h => h) (fun fs m hb => next_of hO hb)
  have hQ : ∀ (t : Nat) (v : Int), W64 v → QP k row rrow (i + 1) (i + 1) (nx + 1) ⟨selI (2 + t) 2 v g.r0, selI (2 + t) 3 v g.r1, selI (2 + t) 4 v g.r2, selI (2 + t) 5 v g.r3, selI (2 + t) 6 v g.r4, selI (2 + t) 7 v g.r5, selI (2 + t) 8 v g.r6, selI (2 + t) 9 v g.r7⟩ row rrow := fun t v hv => ⟨rfl, by omega, by omega, in_set hg t hv, rfl, rfl⟩
  simp only [at5, Nat.zero_add, Nat.mul_one, Nat.add_sub_cancel_left, hext, eta_rg, at_rg, ei, hW, beq_self_eq_true, Bool.and_true, Bool.and_self, Bool.not_true, e0, e1, e2, e3, e4, en, h4, hA8, hx0]
  clear hO
  repeat' first | exact trivial | exact hQ _ _ (w64_wrap _) | exact rfl | exact hdi | exact hr1 | exact hr2 | exact hr3 | exact hI | exact hRR | exact h8 | exact h8R | exact hnk | exact i1 | exact i2 | exact i3 | exact i4 | exact i5 | exact pT_1 | exact pT_2 | exact pH_2 | exact td_3 | exact td_4 | exact td_5 | exact td_6 | exact td_7 | omega | decide | apply And.intro
theorem pk_5 (h : GivP row rrow k off n rs) (hO : PNext off n rs ty k row rrow (i + 1)) (hi : 0 ≤ i) (hlt : i < n) (hnx : 0 ≤ nx ∧ nx ≤ k) (hg : g.In) (hk : nx < k ∧ intAt row (nx.toNat * 5) = 3) :
    Good Try.prog (boolR true) 1 (pH off n i) (pM rs ty k nx g row rrow) := by
  have hk64 := h.g.k64
  have hn200 := h.g.n200
  have hsz := h.g.size
  have hext : Array.extract row 0 (k * 5) = row := by rw [← hsz, Array.extract_size]
  obtain ⟨hr1, hr2, hr3⟩ := h.g.res.at' i.toNat (by omega)
  obtain ⟨hv, hw⟩ := h.rng i.toNat (by omega)
  have hdi : decide (i < (n : Int)) = true := decide_eq_true hlt
  have ei : ari BinOp.add IntKind.i64 i 1 = i + 1 := add1 (by omega)
  have hW : IntKind.i64.wrap (intAt rs (off + i.toNat * 3 + 2)) = intAt rs (off + i.toNat * 3 + 2) := Go.IntWalk.i64_in _ (by omega)
  obtain ⟨hlk, hop⟩ := hk
  obtain ⟨hI, h8, hj⟩ := in8_at h ⟨hnx.1, hlk⟩
  obtain ⟨hR, e0, e1, e2, e3, e4⟩ := rr_at h ⟨hnx.1, hlk⟩
  have h8R : in8 rrow (nx.toNat * 5) := by
    unfold in8
    rw [e1, e2, e3, e4]
    exact h8
  obtain ⟨i1, i2, i3, i4, i5⟩ := hR
  have hRR : RowAt rrow (nx.toNat * 5) := ⟨i1, i2, i3, i4, i5⟩
  have h8' := h8
  unfold in8 at h8'
  have hA8 : decide (intAt row (nx.toNat * 5 + 1) < 8) = true := decide_eq_true h8'.1.2
  have en : ari BinOp.add IntKind.i64 nx 1 = nx + 1 := add1 (by omega)
  have h4 : IntKind.i64.wrap (intAt row (nx.toNat * 5 + 4)) = intAt row (nx.toNat * 5 + 4) := Go.IntWalk.i64_in _ (by omega)
  have hnk : decide (nx ≥ (k : Int)) = false := decide_eq_false (by omega)
  have hx0 : intAt row (nx.toNat * 5) = 3 := hop
  refine past_way (EP_ok 5 true false) 1000 (pl_5 off n rs ty k i nx g row rrow (QP k row rrow (i + 1))) ?_ (fun _ _ h => h) (fun fs m hb => next_of hO hb)
  have hQ : ∀ (t : Nat) (v : Int), W64 v → QP k row rrow (i + 1) (i + 1) (nx + 1) ⟨selI (2 + t) 2 v g.r0, selI (2 + t) 3 v g.r1, selI (2 + t) 4 v g.r2, selI (2 + t) 5 v g.r3, selI (2 + t) 6 v g.r4, selI (2 + t) 7 v g.r5, selI (2 + t) 8 v g.r6, selI (2 + t) 9 v g.r7⟩ row rrow := fun t v hv => ⟨rfl, by omega, by omega, in_set hg t hv, rfl, rfl⟩
  simp only [at5, Nat.zero_add, Nat.mul_one, Nat.add_sub_cancel_left, hext, eta_rg, at_rg, ei, hW, beq_self_eq_true, Bool.and_true, Bool.and_self, Bool.not_true, e0, e1, e2, e3, e4, en, h4, hA8, hx0]
  clear hO
  repeat' first | exact trivial | exact hQ _ _ (w64_wrap _) | exact rfl | exact hdi | exact hr1 | exact hr2 | exact hr3 | exact hI | exact hRR | exact h8 | exact h8R | exact hnk | exact i1 | exact i2 | exact i3 | exact i4 | exact i5 | exact pT_1 | exact pT_2 | exact pH_2 | exact td_3 | exact td_4 | exact td_5 | exact td_6 | exact td_7 | omega | decide | apply And.intro
theorem pk_7 (h : GivP row rrow k off n rs) (hO : PNext off n rs ty k row rrow (i + 1)) (hi : 0 ≤ i) (hlt : i < n) (hnx : 0 ≤ nx ∧ nx ≤ k) (hg : g.In) (hk : nx < k ∧ intAt row (nx.toNat * 5) = 5) :
    Good Try.prog (boolR true) 1 (pH off n i) (pM rs ty k nx g row rrow) := by
  have hk64 := h.g.k64
  have hn200 := h.g.n200
  have hsz := h.g.size
  have hext : Array.extract row 0 (k * 5) = row := by rw [← hsz, Array.extract_size]
  obtain ⟨hr1, hr2, hr3⟩ := h.g.res.at' i.toNat (by omega)
  obtain ⟨hv, hw⟩ := h.rng i.toNat (by omega)
  have hdi : decide (i < (n : Int)) = true := decide_eq_true hlt
  have ei : ari BinOp.add IntKind.i64 i 1 = i + 1 := add1 (by omega)
  have hW : IntKind.i64.wrap (intAt rs (off + i.toNat * 3 + 2)) = intAt rs (off + i.toNat * 3 + 2) := Go.IntWalk.i64_in _ (by omega)
  obtain ⟨hlk, hop⟩ := hk
  obtain ⟨hI, h8, hj⟩ := in8_at h ⟨hnx.1, hlk⟩
  obtain ⟨hR, e0, e1, e2, e3, e4⟩ := rr_at h ⟨hnx.1, hlk⟩
  have h8R : in8 rrow (nx.toNat * 5) := by
    unfold in8
    rw [e1, e2, e3, e4]
    exact h8
  obtain ⟨i1, i2, i3, i4, i5⟩ := hR
  have hRR : RowAt rrow (nx.toNat * 5) := ⟨i1, i2, i3, i4, i5⟩
  have h8' := h8
  unfold in8 at h8'
  have hA8 : decide (intAt row (nx.toNat * 5 + 1) < 8) = true := decide_eq_true h8'.1.2
  have en : ari BinOp.add IntKind.i64 nx 1 = nx + 1 := add1 (by omega)
  have h4 : IntKind.i64.wrap (intAt row (nx.toNat * 5 + 4)) = intAt row (nx.toNat * 5 + 4) := Go.IntWalk.i64_in _ (by omega)
  have hnk : decide (nx ≥ (k : Int)) = false := decide_eq_false (by omega)
  have hx0 : intAt row (nx.toNat * 5) = 5 := hop
  refine past_way (EP_ok 7 true false) 1000 (pl_7 off n rs ty k i nx g row rrow (QP k row rrow (i + 1))) ?_ (fun _ _ h => h) (fun fs m hb => next_of hO hb)
  have hjj := hj (by omega)
  have hQ : QP k row rrow (i + 1) (i + 1) (intAt row (nx.toNat * 5 + 4)) g row rrow := ⟨rfl, by omega, by omega, hg, rfl, rfl⟩
  simp only [at5, Nat.zero_add, Nat.mul_one, Nat.add_sub_cancel_left, hext, eta_rg, at_rg, ei, hW, beq_self_eq_true, Bool.and_true, Bool.and_self, Bool.not_true, e0, e1, e2, e3, e4, en, h4, hA8, hx0]
  clear hO
  repeat' first | exact trivial | exact hQ | exact rfl | exact hdi | exact hr1 | exact hr2 | exact hr3 | exact hI | exact hRR | exact h8 | exact h8R | exact hnk | exact i1 | exact i2 | exact i3 | exact i4 | exact i5 | exact pT_1 | exact pT_2 | exact pH_2 | exact td_3 | exact td_4 | exact td_5 | exact td_6 | exact td_7 | omega | decide | apply And.intro
theorem pk_8t (h : GivP row rrow k off n rs) (hO : PNext off n rs ty k row rrow (i + 1)) (hi : 0 ≤ i) (hlt : i < n) (hnx : 0 ≤ nx ∧ nx ≤ k) (hg : g.In) (hk : nx < k ∧ intAt row (nx.toNat * 5) = 6) (hz : g.at (intAt row (nx.toNat * 5 + 1)).toNat ≠ 0) :
    Good Try.prog (boolR true) 1 (pH off n i) (pM rs ty k nx g row rrow) := by
  have hk64 := h.g.k64
  have hn200 := h.g.n200
  have hsz := h.g.size
  have hext : Array.extract row 0 (k * 5) = row := by rw [← hsz, Array.extract_size]
  obtain ⟨hr1, hr2, hr3⟩ := h.g.res.at' i.toNat (by omega)
  obtain ⟨hv, hw⟩ := h.rng i.toNat (by omega)
  have hdi : decide (i < (n : Int)) = true := decide_eq_true hlt
  have ei : ari BinOp.add IntKind.i64 i 1 = i + 1 := add1 (by omega)
  have hW : IntKind.i64.wrap (intAt rs (off + i.toNat * 3 + 2)) = intAt rs (off + i.toNat * 3 + 2) := Go.IntWalk.i64_in _ (by omega)
  obtain ⟨hlk, hop⟩ := hk
  obtain ⟨hI, h8, hj⟩ := in8_at h ⟨hnx.1, hlk⟩
  obtain ⟨hR, e0, e1, e2, e3, e4⟩ := rr_at h ⟨hnx.1, hlk⟩
  have h8R : in8 rrow (nx.toNat * 5) := by
    unfold in8
    rw [e1, e2, e3, e4]
    exact h8
  obtain ⟨i1, i2, i3, i4, i5⟩ := hR
  have hRR : RowAt rrow (nx.toNat * 5) := ⟨i1, i2, i3, i4, i5⟩
  have h8' := h8
  unfold in8 at h8'
  have hA8 : decide (intAt row (nx.toNat * 5 + 1) < 8) = true := decide_eq_true h8'.1.2
  have en : ari BinOp.add IntKind.i64 nx 1 = nx + 1 := add1 (by omega)
  have h4 : IntKind.i64.wrap (intAt row (nx.toNat * 5 + 4)) = intAt row (nx.toNat * 5 + 4) := Go.IntWalk.i64_in _ (by omega)
  have hnk : decide (nx ≥ (k : Int)) = false := decide_eq_false (by omega)
  have hx0 : intAt row (nx.toNat * 5) = 6 := hop
  refine past_way (EP_ok 8 true false) 1000 (pl_8t off n rs ty k i nx g row rrow (QP k row rrow (i + 1))) ?_ (fun _ _ h => h) (fun fs m hb => next_of hO hb)
  have hjj := hj (by omega)
  have hQ : QP k row rrow (i + 1) (i + 1) (intAt row (nx.toNat * 5 + 4)) g row rrow := ⟨rfl, by omega, by omega, hg, rfl, rfl⟩
  have hx := at_in hg (intAt row (nx.toNat * 5 + 1)).toNat
  unfold W64 at hx
  have hne : (g.at (intAt row (nx.toNat * 5 + 1)).toNat != 0) = true := by simpa using hz
  have hgt : decide (g.at (intAt row (nx.toNat * 5 + 1)).toNat > 0) = true := decide_eq_true (by omega)
  simp only [at5, Nat.zero_add, Nat.mul_one, Nat.add_sub_cancel_left, hext, eta_rg, at_rg, ei, hW, beq_self_eq_true, Bool.and_true, Bool.and_self, Bool.not_true, e0, e1, e2, e3, e4, en, h4, hA8, hx0]
  clear hO
  repeat' first | exact trivial | exact hQ | exact hne | exact hgt | exact rfl | exact hdi | exact hr1 | exact hr2 | exact hr3 | exact hI | exact hRR | exact h8 | exact h8R | exact hnk | exact i1 | exact i2 | exact i3 | exact i4 | exact i5 | exact pT_1 | exact pT_2 | exact pH_2 | exact td_3 | exact td_4 | exact td_5 | exact td_6 | exact td_7 | omega | decide | apply And.intro
theorem pk_8f (h : GivP row rrow k off n rs) (hO : PNext off n rs ty k row rrow (i + 1)) (hi : 0 ≤ i) (hlt : i < n) (hnx : 0 ≤ nx ∧ nx ≤ k) (hg : g.In) (hk : nx < k ∧ intAt row (nx.toNat * 5) = 6) (hz : g.at (intAt row (nx.toNat * 5 + 1)).toNat = 0) :
    Good Try.prog (boolR true) 1 (pH off n i) (pM rs ty k nx g row rrow) := by
  have hk64 := h.g.k64
  have hn200 := h.g.n200
  have hsz := h.g.size
  have hext : Array.extract row 0 (k * 5) = row := by rw [← hsz, Array.extract_size]
  obtain ⟨hr1, hr2, hr3⟩ := h.g.res.at' i.toNat (by omega)
  obtain ⟨hv, hw⟩ := h.rng i.toNat (by omega)
  have hdi : decide (i < (n : Int)) = true := decide_eq_true hlt
  have ei : ari BinOp.add IntKind.i64 i 1 = i + 1 := add1 (by omega)
  have hW : IntKind.i64.wrap (intAt rs (off + i.toNat * 3 + 2)) = intAt rs (off + i.toNat * 3 + 2) := Go.IntWalk.i64_in _ (by omega)
  obtain ⟨hlk, hop⟩ := hk
  obtain ⟨hI, h8, hj⟩ := in8_at h ⟨hnx.1, hlk⟩
  obtain ⟨hR, e0, e1, e2, e3, e4⟩ := rr_at h ⟨hnx.1, hlk⟩
  have h8R : in8 rrow (nx.toNat * 5) := by
    unfold in8
    rw [e1, e2, e3, e4]
    exact h8
  obtain ⟨i1, i2, i3, i4, i5⟩ := hR
  have hRR : RowAt rrow (nx.toNat * 5) := ⟨i1, i2, i3, i4, i5⟩
  have h8' := h8
  unfold in8 at h8'
  have hA8 : decide (intAt row (nx.toNat * 5 + 1) < 8) = true := decide_eq_true h8'.1.2
  have en : ari BinOp.add IntKind.i64 nx 1 = nx + 1 := add1 (by omega)
  have h4 : IntKind.i64.wrap (intAt row (nx.toNat * 5 + 4)) = intAt row (nx.toNat * 5 + 4) := Go.IntWalk.i64_in _ (by omega)
  have hnk : decide (nx ≥ (k : Int)) = false := decide_eq_false (by omega)
  have hx0 : intAt row (nx.toNat * 5) = 6 := hop
  refine past_way (EP_ok 8 true false) 1000 (pl_8f off n rs ty k i nx g row rrow (QP k row rrow (i + 1))) ?_ (fun _ _ h => h) (fun fs m hb => next_of hO hb)
  have hQ : QP k row rrow (i + 1) (i + 1) (nx + 1) g row rrow := ⟨rfl, by omega, by omega, hg, rfl, rfl⟩
  have hne : (g.at (intAt row (nx.toNat * 5 + 1)).toNat != 0) = false := by simpa using hz
  have hgt : decide (g.at (intAt row (nx.toNat * 5 + 1)).toNat > 0) = false := decide_eq_false (by omega)
  simp only [at5, Nat.zero_add, Nat.mul_one, Nat.add_sub_cancel_left, hext, eta_rg, at_rg, ei, hW, beq_self_eq_true, Bool.and_true, Bool.and_self, Bool.not_true, e0, e1, e2, e3, e4, en, h4, hA8, hx0]
  clear hO
  repeat' first | exact trivial | exact hQ | exact hne | exact hgt | exact rfl | exact hdi | exact hr1 | exact hr2 | exact hr3 | exact hI | exact hRR | exact h8 | exact h8R | exact hnk | exact i1 | exact i2 | exact i3 | exact i4 | exact i5 | exact pT_1 | exact pT_2 | exact pH_2 | exact td_3 | exact td_4 | exact td_5 | exact td_6 | exact td_7 | omega | decide | apply And.intro
end
end Go.Proofs.Ytkidmmgkfopecaa
/- Of task: the empty ones. No condition. -/
namespace Go.Proofs.Ytkidmmgkfopecaa
noncomputable section
def M1 : SMem := ⟨1, .nil, []⟩
def gE1 : Tree := run (EK 0 4 []) 3000 1 (goesC litE e0V) M1
def gE2 (b : ByteArray) : Tree := run (EK 0 4 []) 3000 1 (goesC (strV b) e0V) M1
end
theorem gE1_true : gE1.allTrue = true := by kernel_rfl
end Go.Proofs.Ytkidmmgkfopecaa
/- Of task: TaskGoes without results, as a proposition. No condition. -/
namespace Go.Proofs.Ytkidmmgkfopecaa
set_option maxRecDepth 100000
theorem go_e2 (b : ByteArray) : (gE2 b).vc (boolR true) (fun _ _ => False) =
    (((decide ((match match mkSN false (ByteArray.size b) with | SN.l n => SI.l (↑n : Int) | SN.o n => SI.o (↑n : Int) with | SI.l n => n | SI.o n => n) > (1000 : Int)) == false) = true → (ByteArray.size b ≠ (0 : Nat) ∧ ByteArray.size b < (9223372036854775807 : Nat) ∧ True) ∧ (decOk b = true → true = true) ∧ (decOk b = false → true = true)) ∧ ((decide ((match match mkSN false (ByteArray.size b) with | SN.l n => SI.l (↑n : Int) | SN.o n => SI.o (↑n : Int) with | SI.l n => n | SI.o n => n) > (1000 : Int)) == false) = false → true = true)) := by kernel_rfl
end Go.Proofs.Ytkidmmgkfopecaa
/- Of task: TaskGoes, from the start. No condition. -/
namespace Go.Proofs.Ytkidmmgkfopecaa
set_option maxRecDepth 100000
theorem given_of {b : ByteArray} {off n : Nat} {rs : Array Value} (hd : decOk b = true) (hn : n ≤ 200) (hr : ResOk rs off n) : Given (rowD b) (sizeD b) off n rs := by
  unfold decOk at hd
  rw [Bool.and_eq_true, decide_eq_true_eq] at hd
  obtain ⟨⟨h1, h2⟩, h3⟩ := hd
  have hs : sizeD b = b.size / 6 := rfl
  exact ⟨(mayV_iff.1 h3).1, hn, by show (decL b (b.size / 6)).toArray.size = _; rw [List.size_toArray, decL_len]; rfl, dec_insOk b (by omega), h3, hr⟩
theorem goes1 : Good Try.prog (boolR true) 1 (goesC litE e0V) M1 := (good_true (EK_ok 0 4 []) gE1_true).mono fun s m h => by rw [h]; rfl
theorem goes2 {b : ByteArray} (hb0 : b.size ≠ 0) : Good Try.prog (boolR true) 1 (goesC (strV b) e0V) M1 := by
  refine run_vc (EK_ok 0 4 []) 3000 (go_e2 b) ?_ (fun _ _ h => h) (fun _ _ h => h.elim)
  simp only [mkSN]
  refine ⟨fun h => ?_, fun _ => trivial⟩
  have hl : b.size < 9223372036854775807 := by simp at h; omega
  exact ⟨⟨hb0, hl, trivial⟩, fun _ => trivial, fun _ => trivial⟩
theorem oT_1 : TodoOk (ren 1 [(1, 2)]) oTd oTd := TodoOk.same (by kernel_rfl)
variable {off n : Nat} {rs : Array Value} {ty : TypeId}
theorem goes3 (hr : n ≤ 200 → ResOk rs off n) : Good Try.prog (boolR true) 1 (goesC litE (prS off n)) (prM true rs ty) := by
  refine run_vc (EK_ok 0 4 [8]) 1000 (go_z off n rs ty (fun i => i = 0 ∧ n ≤ 200)) ?_ (fun _ _ h => h) (fun fs m hb => zN_good (fun i ⟨e, hn⟩ => by rw [e]; exact z_round hn (hr hn) (n + 1) 0 (by omega) (by omega) (by omega)) hb)
  refine ⟨fun _ => rfl, fun h => ?_⟩
  have hn : n ≤ 200 := by simp at h; omega
  have hQ : (0 : Int) = 0 ∧ n ≤ 200 := ⟨rfl, hn⟩
  repeat' first | exact hQ | exact trivial | exact oT_1 | exact rfl | apply And.intro
theorem goes4 {b : ByteArray} (hb0 : b.size ≠ 0) (hr : n ≤ 200 → ResOk rs off n) : Good Try.prog (boolR true) 1 (goesC (strV b) (prS off n)) (prM true rs ty) := by
  refine run_vc (EK_ok 0 4 [8]) 1000 (go_start b off n rs ty (sizeD b) (fun i nx _ row => i = 0 ∧ nx = 0 ∧ row = rowD b ∧ decOk b = true ∧ n ≤ 200)) ?_ (fun _ _ h => h)
    (fun fs m hb => oN_good (fun i nx g row ⟨e1, e2, e3, hd, hn⟩ => by rw [e1, e2, e3]; exact go_round (given_of hd hn (hr hn)) (n + 1) 0 0 g (by omega) (by omega) (by omega) (by omega) (by omega)) hb)
  simp only [mkSN]
  refine ⟨fun h => ⟨fun _ => trivial, fun h2 => ⟨⟨hb0, by simp at h; omega, trivial⟩, fun hd => ?_, fun _ => trivial⟩⟩, fun _ => trivial⟩
  have hn : n ≤ 200 := by simp at h2; omega
  have hQ : (0 : Int) = 0 ∧ (0 : Int) = 0 ∧ rowD b = rowD b ∧ decOk b = true ∧ n ≤ 200 := ⟨rfl, rfl, rfl, hd, hn⟩
  repeat' first | exact hQ | exact hd | exact hn | exact trivial | exact oT_32 | exact rfl | apply And.intro
end Go.Proofs.Ytkidmmgkfopecaa
