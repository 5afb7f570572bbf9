/- Of forests: ForestWhole: the law's states. -/
import Derived.Test.YtklhlkdpidkijaaDoorMC
import Derived.Test.YtklhlkdpidkijaaDoorE1
import Derived.Test.YtklhlkdpidkijaaDoorK15
import Derived.Test.YtklhlkdpidkijaaDoorF1
set_option linter.unusedVariables false
set_option linter.unusedSimpArgs false
namespace Go.Proofs.YtklhlkdpidkijaaDoor
set_option maxRecDepth 100000
theorem v0F (off : Nat) (n : Nat) (cs : Array Value) (ty : TypeId) (Q : Int → Array Value → Prop) : (v0_t off n cs ty).vc (isB true) (v0_x off n cs ty Q) =
    ((decide ((↑n : Int) > (100 : Int)) = true → true = true) ∧ (decide ((↑n : Int) > (100 : Int)) = false → Q (0 : Int) zT ∧ CallKind.normal = CallKind.normal ∧ TodoOk (ren 1 [(1, 1)]) pL_d0 pL_d0 ∧ off = off ∧ n = n ∧ (0 : Int) = (0 : Int) ∧ ty = ty ∧ cs = cs ∧ (39 : TypeId) = (39 : Nat) ∧ zT = zT ∧ True)) := by kernel_rfl
theorem vZF (z : Nat) : (run EW 1000 1 [callFr 4 Tryd.f4.ntmps [eS] (Tryd.f4.body.getD .skip)] (mkM 1 [])).vc (isB true) (fun _ _ => False) =
    (true = true) := by kernel_rfl
theorem vLF (off : Nat) (n : Nat) (cs : Array Value) (ty : TypeId) (i : Int) (ts : Array Value) (r : Nat) (ks : Array Value) (QN QS : Int → Array Value → Int → Array Value → Int → Int → Int → Int → Int → Prop) : (stepT EL.go (run EL 1000) 1 (pL_F off n cs ty i ts) (pL_M off n cs ty i ts)).vc (isB true) (pNS off n cs ty r ks QN QS) =
    ((decide (i < (↑n : Int)) = true → (((0 : Int) ≤ i ∧ i < (↑n : Int)) ∧ True) ∧ (IsInt IntKind.u8 cs (off + Int.toNat i * 5) ∧ IsInt IntKind.u32 cs (off + Int.toNat i * 5 + 1) ∧ IsInt IntKind.u32 cs (off + Int.toNat i * 5 + 2) ∧ IsInt IntKind.u32 cs (off + Int.toNat i * 5 + 3) ∧ IsInt IntKind.i64 cs (off + Int.toNat i * 5 + 4) ∧ True) ∧ (Array.size ts = (448 : Nat) ∧ True) ∧ (FIn ts ∧ ((0 : Int) ≤ intAt cs (off + Int.toNat i * 5 + 1) ∧ intAt cs (off + Int.toNat i * 5 + 1) < (4294967296 : Int)) ∧ True) ∧ (decide (List.length (unT ts (intAt cs (off + Int.toNat i * 5 + 1))) = (0 : Nat)) = true → (Array.size ts = (448 : Nat) ∧ True) ∧ (Array.size ts = (448 : Nat) ∧ Array.size ts = (448 : Nat) ∧ True) ∧ QN i ts (intAt cs (off + Int.toNat i * 5 + 1)) ts (intAt cs (off + Int.toNat i * 5)) (intAt cs (off + Int.toNat i * 5 + 1)) (intAt cs (off + Int.toNat i * 5 + 2)) (intAt cs (off + Int.toNat i * 5 + 3)) (intAt cs (off + Int.toNat i * 5 + 4)) ∧ CallKind.normal = CallKind.normal ∧ TodoOk (ren 1 [(1, 1), (2, 2), (3, 3)]) pN_d0 pN_d0 ∧ off = off ∧ n = n ∧ Value.slice none (0 : Nat) (0 : Nat) = Value.slice none (0 : Nat) (0 : Nat) ∧ i = i ∧ intAt cs (off + Int.toNat i * 5 + 1) = intAt cs (off + Int.toNat i * 5 + 1) ∧ ty = ty ∧ cs = cs ∧ (39 : TypeId) = (39 : TypeId) ∧ ts = ts ∧ (39 : TypeId) = (39 : Nat) ∧ ts = ts ∧ (55 : TypeId) = (55 : Nat) ∧ intAt cs (off + Int.toNat i * 5) = intAt cs (off + Int.toNat i * 5) ∧ intAt cs (off + Int.toNat i * 5 + 1) = intAt cs (off + Int.toNat i * 5 + 1) ∧ intAt cs (off + Int.toNat i * 5 + 2) = intAt cs (off + Int.toNat i * 5 + 2) ∧ intAt cs (off + Int.toNat i * 5 + 3) = intAt cs (off + Int.toNat i * 5 + 3) ∧ intAt cs (off + Int.toNat i * 5 + 4) = intAt cs (off + Int.toNat i * 5 + 4) ∧ True) ∧ (decide (List.length (unT ts (intAt cs (off + Int.toNat i * 5 + 1))) = (0 : Nat)) = false → (Array.size ts = (448 : Nat) ∧ True) ∧ (Array.size ts = (448 : Nat) ∧ Array.size ts = (448 : Nat) ∧ True) ∧ QS i ts (intAt cs (off + Int.toNat i * 5 + 1)) ts (intAt cs (off + Int.toNat i * 5)) (intAt cs (off + Int.toNat i * 5 + 1)) (intAt cs (off + Int.toNat i * 5 + 2)) (intAt cs (off + Int.toNat i * 5 + 3)) (intAt cs (off + Int.toNat i * 5 + 4)) ∧ CallKind.normal = CallKind.normal ∧ TodoOk (ren 1 [(1, 1), (2, 2), (3, 4), (4, 3)]) pN_d0 pN_d0 ∧ off = off ∧ n = n ∧ r = List.length (unT ts (intAt cs (off + Int.toNat i * 5 + 1))) ∧ i = i ∧ intAt cs (off + Int.toNat i * 5 + 1) = intAt cs (off + Int.toNat i * 5 + 1) ∧ ty = ty ∧ cs = cs ∧ (39 : TypeId) = (39 : TypeId) ∧ ts = ts ∧ (39 : TypeId) = (39 : Nat) ∧ ts = ts ∧ (55 : TypeId) = (55 : Nat) ∧ intAt cs (off + Int.toNat i * 5) = intAt cs (off + Int.toNat i * 5) ∧ intAt cs (off + Int.toNat i * 5 + 1) = intAt cs (off + Int.toNat i * 5 + 1) ∧ intAt cs (off + Int.toNat i * 5 + 2) = intAt cs (off + Int.toNat i * 5 + 2) ∧ intAt cs (off + Int.toNat i * 5 + 3) = intAt cs (off + Int.toNat i * 5 + 3) ∧ intAt cs (off + Int.toNat i * 5 + 4) = intAt cs (off + Int.toNat i * 5 + 4) ∧ (30 : TypeId) = (30 : TypeId) ∧ ks = u32s (unT ts (intAt cs (off + Int.toNat i * 5 + 1))) ∧ True)) ∧ (decide (i < (↑n : Int)) = false → true = true)) := by kernel_rfl
theorem vNF (off : Nat) (n : Nat) (cs : Array Value) (ty : TypeId) (i : Int) (ts : Array Value) (h : Int) (was : Array Value) (d a b c q : Int) (Q : Int → Array Value → Prop) : (vN_t off n cs ty i ts h was d a b c q).vc (isB true) (vN_x off n cs ty i ts h was d a b c q Q) =
    (((d == (0 : Int)) = true → (Array.size ts = (448 : Nat) ∧ True) ∧ (FIn ts ∧ ((0 : Int) ≤ h ∧ h < (4294967296 : Int)) ∧ True) ∧ (decide (List.length (unT ts h) = (0 : Nat)) = true → (Array.size ts = (448 : Nat) ∧ Array.size ts = (448 : Nat) ∧ True) ∧ ((64 : Nat) ≤ Array.size ts ∧ True) ∧ (BkOk (Array.extract ts (0 : Nat) (64 : Nat)) ∧ ((0 : Int) ≤ h ∧ h < (4294967296 : Int)) ∧ True) ∧ (((!((4 : Int) == (0 : Int)) == goodB (Array.extract ts (0 : Nat) (64 : Nat)) h) == false) = true → (Array.size ts = (448 : Nat) ∧ True) ∧ (TbOk ts ∧ True) ∧ (decide (List.length (lvT ts) = (0 : Nat)) = true → (Array.size ts = (448 : Nat) ∧ True) ∧ (TbOk ts ∧ True) ∧ (decide (List.length (lvT ts) = (0 : Nat)) = true → (Array.size ts = (448 : Nat) ∧ True) ∧ (Array.size ts = (448 : Nat) ∧ Array.size ts = Array.size ts ∧ True) ∧ Q i ts ∧ CallKind.normal = CallKind.normal ∧ TodoOk (ren 1 [(1, 1)]) pE_d0 pE_d0 ∧ off = off ∧ n = n ∧ i = i ∧ ty = ty ∧ cs = cs ∧ (39 : TypeId) = (39 : TypeId) ∧ ts = ts ∧ True) ∧ (decide (List.length (lvT ts) = (0 : Nat)) = false → (((0 : Int) != ari BinOp.sub IntKind.i64 (↑(List.length (lvT ts)) : Int) (0 : Int)) = true → false = true) ∧ (((0 : Int) != ari BinOp.sub IntKind.i64 (↑(List.length (lvT ts)) : Int) (0 : Int)) = false → (Array.size ts = (448 : Nat) ∧ True) ∧ (Array.size ts = (448 : Nat) ∧ Array.size ts = Array.size ts ∧ True) ∧ Q i ts ∧ CallKind.normal = CallKind.normal ∧ TodoOk (ren 1 [(1, 1)]) pE_d0 pE_d0 ∧ off = off ∧ n = n ∧ i = i ∧ ty = ty ∧ cs = cs ∧ (39 : TypeId) = (39 : TypeId) ∧ ts = ts ∧ True))) ∧ (decide (List.length (lvT ts) = (0 : Nat)) = false → (Array.size ts = (448 : Nat) ∧ True) ∧ (TbOk ts ∧ True) ∧ (decide (List.length (lvT ts) = (0 : Nat)) = true → (((↑(List.length (lvT ts)) : Int) != (0 : Int)) = true → false = true) ∧ (((↑(List.length (lvT ts)) : Int) != (0 : Int)) = false → (Array.size ts = (448 : Nat) ∧ True) ∧ (Array.size ts = (448 : Nat) ∧ Array.size ts = Array.size ts ∧ True) ∧ Q i ts ∧ CallKind.normal = CallKind.normal ∧ TodoOk (ren 1 [(1, 1)]) pE_d0 pE_d0 ∧ off = off ∧ n = n ∧ i = i ∧ ty = ty ∧ cs = cs ∧ (39 : TypeId) = (39 : TypeId) ∧ ts = ts ∧ True)) ∧ (decide (List.length (lvT ts) = (0 : Nat)) = false → (((↑(List.length (lvT ts)) : Int) != ari BinOp.sub IntKind.i64 (↑(List.length (lvT ts)) : Int) (0 : Int)) = true → false = true) ∧ (((↑(List.length (lvT ts)) : Int) != ari BinOp.sub IntKind.i64 (↑(List.length (lvT ts)) : Int) (0 : Int)) = false → (Array.size ts = (448 : Nat) ∧ True) ∧ (Array.size ts = (448 : Nat) ∧ Array.size ts = Array.size ts ∧ True) ∧ Q i ts ∧ CallKind.normal = CallKind.normal ∧ TodoOk (ren 1 [(1, 1)]) pE_d0 pE_d0 ∧ off = off ∧ n = n ∧ i = i ∧ ty = ty ∧ cs = cs ∧ (39 : TypeId) = (39 : TypeId) ∧ ts = ts ∧ True)))) ∧ (((!((4 : Int) == (0 : Int)) == goodB (Array.extract ts (0 : Nat) (64 : Nat)) h) == false) = false → false = true)) ∧ (decide (List.length (unT ts h) = (0 : Nat)) = false → (Array.size (fellT ts h) = (448 : Nat) ∧ Array.size (fellT ts h) = (448 : Nat) ∧ True) ∧ ((64 : Nat) ≤ Array.size ts ∧ True) ∧ (BkOk (Array.extract ts (0 : Nat) (64 : Nat)) ∧ ((0 : Int) ≤ h ∧ h < (4294967296 : Int)) ∧ True) ∧ (((!((0 : Int) == (0 : Int)) == goodB (Array.extract ts (0 : Nat) (64 : Nat)) h) == false) = true → ((((↑(List.length (unT ts h)) : Int) != (0 : Int)) == false) = true → (Array.size (fellT ts h) = (448 : Nat) ∧ True) ∧ (TbOk (fellT ts h) ∧ True) ∧ (decide (List.length (lvT (fellT ts h)) = (0 : Nat)) = true → (Array.size ts = (448 : Nat) ∧ True) ∧ (TbOk ts ∧ True) ∧ (decide (List.length (lvT ts) = (0 : Nat)) = true → (Array.size (fellT ts h) = (448 : Nat) ∧ True) ∧ (Array.size (fellT ts h) = (448 : Nat) ∧ Array.size (fellT ts h) = Array.size ts ∧ True) ∧ Q i (fellT ts h) ∧ CallKind.normal = CallKind.normal ∧ TodoOk (ren 1 [(1, 1)]) pE_d0 pE_d0 ∧ off = off ∧ n = n ∧ i = i ∧ ty = ty ∧ cs = cs ∧ (39 : TypeId) = (39 : TypeId) ∧ fellT ts h = fellT ts h ∧ True) ∧ (decide (List.length (lvT ts) = (0 : Nat)) = false → (((0 : Int) != ari BinOp.sub IntKind.i64 (↑(List.length (lvT ts)) : Int) (0 : Int)) = true → false = true) ∧ (((0 : Int) != ari BinOp.sub IntKind.i64 (↑(List.length (lvT ts)) : Int) (0 : Int)) = false → (Array.size (fellT ts h) = (448 : Nat) ∧ True) ∧ (Array.size (fellT ts h) = (448 : Nat) ∧ Array.size (fellT ts h) = Array.size ts ∧ True) ∧ Q i (fellT ts h) ∧ CallKind.normal = CallKind.normal ∧ TodoOk (ren 1 [(1, 1)]) pE_d0 pE_d0 ∧ off = off ∧ n = n ∧ i = i ∧ ty = ty ∧ cs = cs ∧ (39 : TypeId) = (39 : TypeId) ∧ fellT ts h = fellT ts h ∧ True))) ∧ (decide (List.length (lvT (fellT ts h)) = (0 : Nat)) = false → (Array.size ts = (448 : Nat) ∧ True) ∧ (TbOk ts ∧ True) ∧ (decide (List.length (lvT ts) = (0 : Nat)) = true → (((↑(List.length (lvT (fellT ts h))) : Int) != (0 : Int)) = true → false = true) ∧ (((↑(List.length (lvT (fellT ts h))) : Int) != (0 : Int)) = false → (Array.size (fellT ts h) = (448 : Nat) ∧ True) ∧ (Array.size (fellT ts h) = (448 : Nat) ∧ Array.size (fellT ts h) = Array.size ts ∧ True) ∧ Q i (fellT ts h) ∧ CallKind.normal = CallKind.normal ∧ TodoOk (ren 1 [(1, 1)]) pE_d0 pE_d0 ∧ off = off ∧ n = n ∧ i = i ∧ ty = ty ∧ cs = cs ∧ (39 : TypeId) = (39 : TypeId) ∧ fellT ts h = fellT ts h ∧ True)) ∧ (decide (List.length (lvT ts) = (0 : Nat)) = false → (((↑(List.length (lvT (fellT ts h))) : Int) != ari BinOp.sub IntKind.i64 (↑(List.length (lvT ts)) : Int) (0 : Int)) = true → false = true) ∧ (((↑(List.length (lvT (fellT ts h))) : Int) != ari BinOp.sub IntKind.i64 (↑(List.length (lvT ts)) : Int) (0 : Int)) = false → (Array.size (fellT ts h) = (448 : Nat) ∧ True) ∧ (Array.size (fellT ts h) = (448 : Nat) ∧ Array.size (fellT ts h) = Array.size ts ∧ True) ∧ Q i (fellT ts h) ∧ CallKind.normal = CallKind.normal ∧ TodoOk (ren 1 [(1, 1)]) pE_d0 pE_d0 ∧ off = off ∧ n = n ∧ i = i ∧ ty = ty ∧ cs = cs ∧ (39 : TypeId) = (39 : TypeId) ∧ fellT ts h = fellT ts h ∧ True)))) ∧ ((((↑(List.length (unT ts h)) : Int) != (0 : Int)) == false) = false → false = true)) ∧ (((!((0 : Int) == (0 : Int)) == goodB (Array.extract ts (0 : Nat) (64 : Nat)) h) == false) = false → false = true))) ∧ ((d == (0 : Int)) = false → ((d == (1 : Int)) = true → (Array.size ts = (448 : Nat) ∧ True) ∧ (FIn ts ∧ ((0 : Int) ≤ h ∧ h < (4294967296 : Int)) ∧ True) ∧ (Array.size (cutT ts h) = (448 : Nat) ∧ Array.size (cutT ts h) = Array.size ts ∧ True) ∧ Q i (cutT ts h) ∧ CallKind.normal = CallKind.normal ∧ TodoOk (ren 1 [(1, 1)]) pE_d0 pE_d0 ∧ off = off ∧ n = n ∧ i = i ∧ ty = ty ∧ cs = cs ∧ (39 : TypeId) = (39 : TypeId) ∧ cutT ts h = cutT ts h ∧ True) ∧ ((d == (1 : Int)) = false → ((d == (2 : Int)) = true → (Array.size ts = (448 : Nat) ∧ True) ∧ (FIn ts ∧ ((0 : Int) ≤ h ∧ h < (4294967296 : Int)) ∧ ((0 : Int) ≤ b ∧ b < (4294967296 : Int)) ∧ True) ∧ (Array.size (grT ts h b) = (448 : Nat) ∧ Array.size (grT ts h b) = (448 : Nat) ∧ True) ∧ (((grE ts h b == (0 : Int)) == true) = true → (Array.size (grT ts h b) = (448 : Nat) ∧ True) ∧ (FIn (grT ts h b) ∧ ((0 : Int) ≤ h ∧ h < (4294967296 : Int)) ∧ True) ∧ (Array.size ts = (448 : Nat) ∧ True) ∧ (FIn ts ∧ ((0 : Int) ≤ b ∧ b < (4294967296 : Int)) ∧ True) ∧ ((rtF (grT ts h b) h != rtF ts b) = true → false = true) ∧ ((rtF (grT ts h b) h != rtF ts b) = false → (Array.size (grT ts h b) = (448 : Nat) ∧ True) ∧ (Array.size (grT ts h b) = (448 : Nat) ∧ Array.size (grT ts h b) = Array.size ts ∧ True) ∧ Q i (grT ts h b) ∧ CallKind.normal = CallKind.normal ∧ TodoOk (ren 1 [(1, 1)]) pE_d0 pE_d0 ∧ off = off ∧ n = n ∧ i = i ∧ ty = ty ∧ cs = cs ∧ (39 : TypeId) = (39 : TypeId) ∧ grT ts h b = grT ts h b ∧ True)) ∧ (((grE ts h b == (0 : Int)) == true) = false → (Array.size (grT ts h b) = (448 : Nat) ∧ True) ∧ (Array.size (grT ts h b) = (448 : Nat) ∧ Array.size (grT ts h b) = Array.size ts ∧ True) ∧ Q i (grT ts h b) ∧ CallKind.normal = CallKind.normal ∧ TodoOk (ren 1 [(1, 1)]) pE_d0 pE_d0 ∧ off = off ∧ n = n ∧ i = i ∧ ty = ty ∧ cs = cs ∧ (39 : TypeId) = (39 : TypeId) ∧ grT ts h b = grT ts h b ∧ True)) ∧ ((d == (2 : Int)) = false → ((d == (3 : Int)) = true → (Array.size ts = (448 : Nat) ∧ True) ∧ (TbOk ts ∧ ((0 : Int) ≤ h ∧ h < (4294967296 : Int)) ∧ True) ∧ (Array.size (getA ts h) = (12 : Nat) ∧ Array.size (getA ts h) = (12 : Nat) ∧ True) ∧ (((0 : Int) ≤ ari BinOp.rem IntKind.u32 b (8 : Int) ∧ ari BinOp.rem IntKind.u32 b (8 : Int) < (8 : Int)) ∧ True) ∧ ((4 : Nat) + Int.toNat (ari BinOp.rem IntKind.u32 b (8 : Int)) * 1 < Array.size (getA ts h) ∧ True) ∧ ((getX5 ts h == (0 : Int)) = true → (Array.size ts = (448 : Nat) ∧ True) ∧ (IsInt IntKind.u32 (Array.setIfInBounds (getA ts h) ((4 : Nat) + Int.toNat (ari BinOp.rem IntKind.u32 b (8 : Int)) * 1) (Value.int IntKind.u32 c)) (0 : Nat) ∧ IsInt IntKind.i64 (Array.setIfInBounds (getA ts h) ((4 : Nat) + Int.toNat (ari BinOp.rem IntKind.u32 b (8 : Int)) * 1) (Value.int IntKind.u32 c)) (1 : Nat) ∧ (Array.setIfInBounds (getA ts h) ((4 : Nat) + Int.toNat (ari BinOp.rem IntKind.u32 b (8 : Int)) * 1) (Value.int IntKind.u32 c))[(2 : Nat)]? = some (Value.slice none (0 : Nat) (0 : Nat)) ∧ IsInt IntKind.i64 (Array.setIfInBounds (getA ts h) ((4 : Nat) + Int.toNat (ari BinOp.rem IntKind.u32 b (8 : Int)) * 1) (Value.int IntKind.u32 c)) (3 : Nat) ∧ IsInt IntKind.u32 (Array.setIfInBounds (getA ts h) ((4 : Nat) + Int.toNat (ari BinOp.rem IntKind.u32 b (8 : Int)) * 1) (Value.int IntKind.u32 c)) (4 : Nat) ∧ IsInt IntKind.u32 (Array.setIfInBounds (getA ts h) ((4 : Nat) + Int.toNat (ari BinOp.rem IntKind.u32 b (8 : Int)) * 1) (Value.int IntKind.u32 c)) (5 : Nat) ∧ IsInt IntKind.u32 (Array.setIfInBounds (getA ts h) ((4 : Nat) + Int.toNat (ari BinOp.rem IntKind.u32 b (8 : Int)) * 1) (Value.int IntKind.u32 c)) (6 : Nat) ∧ IsInt IntKind.u32 (Array.setIfInBounds (getA ts h) ((4 : Nat) + Int.toNat (ari BinOp.rem IntKind.u32 b (8 : Int)) * 1) (Value.int IntKind.u32 c)) (7 : Nat) ∧ IsInt IntKind.u32 (Array.setIfInBounds (getA ts h) ((4 : Nat) + Int.toNat (ari BinOp.rem IntKind.u32 b (8 : Int)) * 1) (Value.int IntKind.u32 c)) (8 : Nat) ∧ IsInt IntKind.u32 (Array.setIfInBounds (getA ts h) ((4 : Nat) + Int.toNat (ari BinOp.rem IntKind.u32 b (8 : Int)) * 1) (Value.int IntKind.u32 c)) (9 : Nat) ∧ IsInt IntKind.u32 (Array.setIfInBounds (getA ts h) ((4 : Nat) + Int.toNat (ari BinOp.rem IntKind.u32 b (8 : Int)) * 1) (Value.int IntKind.u32 c)) (10 : Nat) ∧ IsInt IntKind.u32 (Array.setIfInBounds (getA ts h) ((4 : Nat) + Int.toNat (ari BinOp.rem IntKind.u32 b (8 : Int)) * 1) (Value.int IntKind.u32 c)) (11 : Nat) ∧ True) ∧ (TbOk ts ∧ ((0 : Int) ≤ h ∧ h < (4294967296 : Int)) ∧ RgOk (lsA (intAt (Array.setIfInBounds (getA ts h) ((4 : Nat) + Int.toNat (ari BinOp.rem IntKind.u32 b (8 : Int)) * 1) (Value.int IntKind.u32 c)) (0 : Nat)) (intAt (Array.setIfInBounds (getA ts h) ((4 : Nat) + Int.toNat (ari BinOp.rem IntKind.u32 b (8 : Int)) * 1) (Value.int IntKind.u32 c)) (1 : Nat)) (intAt (Array.setIfInBounds (getA ts h) ((4 : Nat) + Int.toNat (ari BinOp.rem IntKind.u32 b (8 : Int)) * 1) (Value.int IntKind.u32 c)) (3 : Nat)) (intAt (Array.setIfInBounds (getA ts h) ((4 : Nat) + Int.toNat (ari BinOp.rem IntKind.u32 b (8 : Int)) * 1) (Value.int IntKind.u32 c)) (4 : Nat)) (intAt (Array.setIfInBounds (getA ts h) ((4 : Nat) + Int.toNat (ari BinOp.rem IntKind.u32 b (8 : Int)) * 1) (Value.int IntKind.u32 c)) (5 : Nat)) (intAt (Array.setIfInBounds (getA ts h) ((4 : Nat) + Int.toNat (ari BinOp.rem IntKind.u32 b (8 : Int)) * 1) (Value.int IntKind.u32 c)) (6 : Nat)) (intAt (Array.setIfInBounds (getA ts h) ((4 : Nat) + Int.toNat (ari BinOp.rem IntKind.u32 b (8 : Int)) * 1) (Value.int IntKind.u32 c)) (7 : Nat)) (intAt (Array.setIfInBounds (getA ts h) ((4 : Nat) + Int.toNat (ari BinOp.rem IntKind.u32 b (8 : Int)) * 1) (Value.int IntKind.u32 c)) (8 : Nat)) (intAt (Array.setIfInBounds (getA ts h) ((4 : Nat) + Int.toNat (ari BinOp.rem IntKind.u32 b (8 : Int)) * 1) (Value.int IntKind.u32 c)) (9 : Nat)) (intAt (Array.setIfInBounds (getA ts h) ((4 : Nat) + Int.toNat (ari BinOp.rem IntKind.u32 b (8 : Int)) * 1) (Value.int IntKind.u32 c)) (10 : Nat)) (intAt (Array.setIfInBounds (getA ts h) ((4 : Nat) + Int.toNat (ari BinOp.rem IntKind.u32 b (8 : Int)) * 1) (Value.int IntKind.u32 c)) (11 : Nat))) (0 : Nat) ∧ True) ∧ (Array.size (setT ts h (lsA (intAt (Array.setIfInBounds (getA ts h) ((4 : Nat) + Int.toNat (ari BinOp.rem IntKind.u32 b (8 : Int)) * 1) (Value.int IntKind.u32 c)) (0 : Nat)) (intAt (Array.setIfInBounds (getA ts h) ((4 : Nat) + Int.toNat (ari BinOp.rem IntKind.u32 b (8 : Int)) * 1) (Value.int IntKind.u32 c)) (1 : Nat)) (intAt (Array.setIfInBounds (getA ts h) ((4 : Nat) + Int.toNat (ari BinOp.rem IntKind.u32 b (8 : Int)) * 1) (Value.int IntKind.u32 c)) (3 : Nat)) (intAt (Array.setIfInBounds (getA ts h) ((4 : Nat) + Int.toNat (ari BinOp.rem IntKind.u32 b (8 : Int)) * 1) (Value.int IntKind.u32 c)) (4 : Nat)) (intAt (Array.setIfInBounds (getA ts h) ((4 : Nat) + Int.toNat (ari BinOp.rem IntKind.u32 b (8 : Int)) * 1) (Value.int IntKind.u32 c)) (5 : Nat)) (intAt (Array.setIfInBounds (getA ts h) ((4 : Nat) + Int.toNat (ari BinOp.rem IntKind.u32 b (8 : Int)) * 1) (Value.int IntKind.u32 c)) (6 : Nat)) (intAt (Array.setIfInBounds (getA ts h) ((4 : Nat) + Int.toNat (ari BinOp.rem IntKind.u32 b (8 : Int)) * 1) (Value.int IntKind.u32 c)) (7 : Nat)) (intAt (Array.setIfInBounds (getA ts h) ((4 : Nat) + Int.toNat (ari BinOp.rem IntKind.u32 b (8 : Int)) * 1) (Value.int IntKind.u32 c)) (8 : Nat)) (intAt (Array.setIfInBounds (getA ts h) ((4 : Nat) + Int.toNat (ari BinOp.rem IntKind.u32 b (8 : Int)) * 1) (Value.int IntKind.u32 c)) (9 : Nat)) (intAt (Array.setIfInBounds (getA ts h) ((4 : Nat) + Int.toNat (ari BinOp.rem IntKind.u32 b (8 : Int)) * 1) (Value.int IntKind.u32 c)) (10 : Nat)) (intAt (Array.setIfInBounds (getA ts h) ((4 : Nat) + Int.toNat (ari BinOp.rem IntKind.u32 b (8 : Int)) * 1) (Value.int IntKind.u32 c)) (11 : Nat)))) = (448 : Nat) ∧ Array.size (setT ts h (lsA (intAt (Array.setIfInBounds (getA ts h) ((4 : Nat) + Int.toNat (ari BinOp.rem IntKind.u32 b (8 : Int)) * 1) (Value.int IntKind.u32 c)) (0 : Nat)) (intAt (Array.setIfInBounds (getA ts h) ((4 : Nat) + Int.toNat (ari BinOp.rem IntKind.u32 b (8 : Int)) * 1) (Value.int IntKind.u32 c)) (1 : Nat)) (intAt (Array.setIfInBounds (getA ts h) ((4 : Nat) + Int.toNat (ari BinOp.rem IntKind.u32 b (8 : Int)) * 1) (Value.int IntKind.u32 c)) (3 : Nat)) (intAt (Array.setIfInBounds (getA ts h) ((4 : Nat) + Int.toNat (ari BinOp.rem IntKind.u32 b (8 : Int)) * 1) (Value.int IntKind.u32 c)) (4 : Nat)) (intAt (Array.setIfInBounds (getA ts h) ((4 : Nat) + Int.toNat (ari BinOp.rem IntKind.u32 b (8 : Int)) * 1) (Value.int IntKind.u32 c)) (5 : Nat)) (intAt (Array.setIfInBounds (getA ts h) ((4 : Nat) + Int.toNat (ari BinOp.rem IntKind.u32 b (8 : Int)) * 1) (Value.int IntKind.u32 c)) (6 : Nat)) (intAt (Array.setIfInBounds (getA ts h) ((4 : Nat) + Int.toNat (ari BinOp.rem IntKind.u32 b (8 : Int)) * 1) (Value.int IntKind.u32 c)) (7 : Nat)) (intAt (Array.setIfInBounds (getA ts h) ((4 : Nat) + Int.toNat (ari BinOp.rem IntKind.u32 b (8 : Int)) * 1) (Value.int IntKind.u32 c)) (8 : Nat)) (intAt (Array.setIfInBounds (getA ts h) ((4 : Nat) + Int.toNat (ari BinOp.rem IntKind.u32 b (8 : Int)) * 1) (Value.int IntKind.u32 c)) (9 : Nat)) (intAt (Array.setIfInBounds (getA ts h) ((4 : Nat) + Int.toNat (ari BinOp.rem IntKind.u32 b (8 : Int)) * 1) (Value.int IntKind.u32 c)) (10 : Nat)) (intAt (Array.setIfInBounds (getA ts h) ((4 : Nat) + Int.toNat (ari BinOp.rem IntKind.u32 b (8 : Int)) * 1) (Value.int IntKind.u32 c)) (11 : Nat)))) = Array.size ts ∧ True) ∧ Q i (setT ts h (lsA (intAt (Array.setIfInBounds (getA ts h) ((4 : Nat) + Int.toNat (ari BinOp.rem IntKind.u32 b (8 : Int)) * 1) (Value.int IntKind.u32 c)) (0 : Nat)) (intAt (Array.setIfInBounds (getA ts h) ((4 : Nat) + Int.toNat (ari BinOp.rem IntKind.u32 b (8 : Int)) * 1) (Value.int IntKind.u32 c)) (1 : Nat)) (intAt (Array.setIfInBounds (getA ts h) ((4 : Nat) + Int.toNat (ari BinOp.rem IntKind.u32 b (8 : Int)) * 1) (Value.int IntKind.u32 c)) (3 : Nat)) (intAt (Array.setIfInBounds (getA ts h) ((4 : Nat) + Int.toNat (ari BinOp.rem IntKind.u32 b (8 : Int)) * 1) (Value.int IntKind.u32 c)) (4 : Nat)) (intAt (Array.setIfInBounds (getA ts h) ((4 : Nat) + Int.toNat (ari BinOp.rem IntKind.u32 b (8 : Int)) * 1) (Value.int IntKind.u32 c)) (5 : Nat)) (intAt (Array.setIfInBounds (getA ts h) ((4 : Nat) + Int.toNat (ari BinOp.rem IntKind.u32 b (8 : Int)) * 1) (Value.int IntKind.u32 c)) (6 : Nat)) (intAt (Array.setIfInBounds (getA ts h) ((4 : Nat) + Int.toNat (ari BinOp.rem IntKind.u32 b (8 : Int)) * 1) (Value.int IntKind.u32 c)) (7 : Nat)) (intAt (Array.setIfInBounds (getA ts h) ((4 : Nat) + Int.toNat (ari BinOp.rem IntKind.u32 b (8 : Int)) * 1) (Value.int IntKind.u32 c)) (8 : Nat)) (intAt (Array.setIfInBounds (getA ts h) ((4 : Nat) + Int.toNat (ari BinOp.rem IntKind.u32 b (8 : Int)) * 1) (Value.int IntKind.u32 c)) (9 : Nat)) (intAt (Array.setIfInBounds (getA ts h) ((4 : Nat) + Int.toNat (ari BinOp.rem IntKind.u32 b (8 : Int)) * 1) (Value.int IntKind.u32 c)) (10 : Nat)) (intAt (Array.setIfInBounds (getA ts h) ((4 : Nat) + Int.toNat (ari BinOp.rem IntKind.u32 b (8 : Int)) * 1) (Value.int IntKind.u32 c)) (11 : Nat)))) ∧ CallKind.normal = CallKind.normal ∧ TodoOk (ren 1 [(1, 1)]) pE_d0 pE_d0 ∧ off = off ∧ n = n ∧ i = i ∧ ty = ty ∧ cs = cs ∧ (39 : TypeId) = (39 : TypeId) ∧ setT ts h (lsA (intAt (Array.setIfInBounds (getA ts h) ((4 : Nat) + Int.toNat (ari BinOp.rem IntKind.u32 b (8 : Int)) * 1) (Value.int IntKind.u32 c)) (0 : Nat)) (intAt (Array.setIfInBounds (getA ts h) ((4 : Nat) + Int.toNat (ari BinOp.rem IntKind.u32 b (8 : Int)) * 1) (Value.int IntKind.u32 c)) (1 : Nat)) (intAt (Array.setIfInBounds (getA ts h) ((4 : Nat) + Int.toNat (ari BinOp.rem IntKind.u32 b (8 : Int)) * 1) (Value.int IntKind.u32 c)) (3 : Nat)) (intAt (Array.setIfInBounds (getA ts h) ((4 : Nat) + Int.toNat (ari BinOp.rem IntKind.u32 b (8 : Int)) * 1) (Value.int IntKind.u32 c)) (4 : Nat)) (intAt (Array.setIfInBounds (getA ts h) ((4 : Nat) + Int.toNat (ari BinOp.rem IntKind.u32 b (8 : Int)) * 1) (Value.int IntKind.u32 c)) (5 : Nat)) (intAt (Array.setIfInBounds (getA ts h) ((4 : Nat) + Int.toNat (ari BinOp.rem IntKind.u32 b (8 : Int)) * 1) (Value.int IntKind.u32 c)) (6 : Nat)) (intAt (Array.setIfInBounds (getA ts h) ((4 : Nat) + Int.toNat (ari BinOp.rem IntKind.u32 b (8 : Int)) * 1) (Value.int IntKind.u32 c)) (7 : Nat)) (intAt (Array.setIfInBounds (getA ts h) ((4 : Nat) + Int.toNat (ari BinOp.rem IntKind.u32 b (8 : Int)) * 1) (Value.int IntKind.u32 c)) (8 : Nat)) (intAt (Array.setIfInBounds (getA ts h) ((4 : Nat) + Int.toNat (ari BinOp.rem IntKind.u32 b (8 : Int)) * 1) (Value.int IntKind.u32 c)) (9 : Nat)) (intAt (Array.setIfInBounds (getA ts h) ((4 : Nat) + Int.toNat (ari BinOp.rem IntKind.u32 b (8 : Int)) * 1) (Value.int IntKind.u32 c)) (10 : Nat)) (intAt (Array.setIfInBounds (getA ts h) ((4 : Nat) + Int.toNat (ari BinOp.rem IntKind.u32 b (8 : Int)) * 1) (Value.int IntKind.u32 c)) (11 : Nat))) = setT ts h (lsA (intAt (Array.setIfInBounds (getA ts h) ((4 : Nat) + Int.toNat (ari BinOp.rem IntKind.u32 b (8 : Int)) * 1) (Value.int IntKind.u32 c)) (0 : Nat)) (intAt (Array.setIfInBounds (getA ts h) ((4 : Nat) + Int.toNat (ari BinOp.rem IntKind.u32 b (8 : Int)) * 1) (Value.int IntKind.u32 c)) (1 : Nat)) (intAt (Array.setIfInBounds (getA ts h) ((4 : Nat) + Int.toNat (ari BinOp.rem IntKind.u32 b (8 : Int)) * 1) (Value.int IntKind.u32 c)) (3 : Nat)) (intAt (Array.setIfInBounds (getA ts h) ((4 : Nat) + Int.toNat (ari BinOp.rem IntKind.u32 b (8 : Int)) * 1) (Value.int IntKind.u32 c)) (4 : Nat)) (intAt (Array.setIfInBounds (getA ts h) ((4 : Nat) + Int.toNat (ari BinOp.rem IntKind.u32 b (8 : Int)) * 1) (Value.int IntKind.u32 c)) (5 : Nat)) (intAt (Array.setIfInBounds (getA ts h) ((4 : Nat) + Int.toNat (ari BinOp.rem IntKind.u32 b (8 : Int)) * 1) (Value.int IntKind.u32 c)) (6 : Nat)) (intAt (Array.setIfInBounds (getA ts h) ((4 : Nat) + Int.toNat (ari BinOp.rem IntKind.u32 b (8 : Int)) * 1) (Value.int IntKind.u32 c)) (7 : Nat)) (intAt (Array.setIfInBounds (getA ts h) ((4 : Nat) + Int.toNat (ari BinOp.rem IntKind.u32 b (8 : Int)) * 1) (Value.int IntKind.u32 c)) (8 : Nat)) (intAt (Array.setIfInBounds (getA ts h) ((4 : Nat) + Int.toNat (ari BinOp.rem IntKind.u32 b (8 : Int)) * 1) (Value.int IntKind.u32 c)) (9 : Nat)) (intAt (Array.setIfInBounds (getA ts h) ((4 : Nat) + Int.toNat (ari BinOp.rem IntKind.u32 b (8 : Int)) * 1) (Value.int IntKind.u32 c)) (10 : Nat)) (intAt (Array.setIfInBounds (getA ts h) ((4 : Nat) + Int.toNat (ari BinOp.rem IntKind.u32 b (8 : Int)) * 1) (Value.int IntKind.u32 c)) (11 : Nat))) ∧ True) ∧ ((getX5 ts h == (0 : Int)) = false → Q i ts ∧ CallKind.normal = CallKind.normal ∧ TodoOk (ren 1 [(1, 1)]) pE_d0 pE_d0 ∧ off = off ∧ n = n ∧ i = i ∧ ty = ty ∧ cs = cs ∧ (39 : TypeId) = (39 : TypeId) ∧ ts = ts ∧ True)) ∧ ((d == (3 : Int)) = false → (Array.size ts = (448 : Nat) ∧ True) ∧ (FIn ts ∧ ((0 : Int) ≤ h ∧ h < (4294967296 : Int)) ∧ True) ∧ (Array.size (fnT ts h q) = (448 : Nat) ∧ Array.size (fnT ts h q) = Array.size ts ∧ True) ∧ Q i (fnT ts h q) ∧ CallKind.normal = CallKind.normal ∧ TodoOk (ren 1 [(1, 1)]) pE_d0 pE_d0 ∧ off = off ∧ n = n ∧ i = i ∧ ty = ty ∧ cs = cs ∧ (39 : TypeId) = (39 : TypeId) ∧ fnT ts h q = fnT ts h q ∧ True))))) := by kernel_rfl
theorem vSF (off : Nat) (n : Nat) (cs : Array Value) (ty : TypeId) (r : Nat) (ks : Array Value) (i : Int) (ts : Array Value) (h : Int) (was : Array Value) (d a b c q : Int) (QC : Int → Array Value → Int → Array Value → Int → Prop) (QE : Int → Array Value → Prop) : (vS_t off n cs ty r ks i ts h was d a b c q).vc (isB true) (vS_x off n cs ty r ks i ts h was d a b c q QC QE) =
    (((d == (0 : Int)) = true → (Array.size ts = (448 : Nat) ∧ True) ∧ (FIn ts ∧ ((0 : Int) ≤ h ∧ h < (4294967296 : Int)) ∧ True) ∧ (decide (List.length (unT ts h) = (0 : Nat)) = true → (Array.size ts = (448 : Nat) ∧ Array.size ts = (448 : Nat) ∧ True) ∧ ((64 : Nat) ≤ Array.size ts ∧ True) ∧ (BkOk (Array.extract ts (0 : Nat) (64 : Nat)) ∧ ((0 : Int) ≤ h ∧ h < (4294967296 : Int)) ∧ True) ∧ (((!((4 : Int) == (0 : Int)) == goodB (Array.extract ts (0 : Nat) (64 : Nat)) h) == false) = true → ((((0 : Int) != (↑r : Int)) == false) = true → (Array.size ts = (448 : Nat) ∧ True) ∧ (TbOk ts ∧ True) ∧ (decide (List.length (lvT ts) = (0 : Nat)) = true → (Array.size ts = (448 : Nat) ∧ True) ∧ (TbOk ts ∧ True) ∧ (decide (List.length (lvT ts) = (0 : Nat)) = true → (((0 : Int) != ari BinOp.sub IntKind.i64 (0 : Int) (↑r : Int)) = true → false = true) ∧ (((0 : Int) != ari BinOp.sub IntKind.i64 (0 : Int) (↑r : Int)) = false → (Array.size ts = (448 : Nat) ∧ True) ∧ (Array.size ts = (448 : Nat) ∧ Array.size ts = Array.size ts ∧ True) ∧ QE i ts ∧ CallKind.normal = CallKind.normal ∧ TodoOk (ren 1 [(1, 1)]) pE_d0 pE_d0 ∧ off = off ∧ n = n ∧ i = i ∧ ty = ty ∧ cs = cs ∧ (39 : TypeId) = (39 : TypeId) ∧ ts = ts ∧ True)) ∧ (decide (List.length (lvT ts) = (0 : Nat)) = false → (((0 : Int) != ari BinOp.sub IntKind.i64 (↑(List.length (lvT ts)) : Int) (↑r : Int)) = true → false = true) ∧ (((0 : Int) != ari BinOp.sub IntKind.i64 (↑(List.length (lvT ts)) : Int) (↑r : Int)) = false → (Array.size ts = (448 : Nat) ∧ True) ∧ (Array.size ts = (448 : Nat) ∧ Array.size ts = Array.size ts ∧ True) ∧ QE i ts ∧ CallKind.normal = CallKind.normal ∧ TodoOk (ren 1 [(1, 1)]) pE_d0 pE_d0 ∧ off = off ∧ n = n ∧ i = i ∧ ty = ty ∧ cs = cs ∧ (39 : TypeId) = (39 : TypeId) ∧ ts = ts ∧ True))) ∧ (decide (List.length (lvT ts) = (0 : Nat)) = false → (Array.size ts = (448 : Nat) ∧ True) ∧ (TbOk ts ∧ True) ∧ (decide (List.length (lvT ts) = (0 : Nat)) = true → (((↑(List.length (lvT ts)) : Int) != ari BinOp.sub IntKind.i64 (0 : Int) (↑r : Int)) = true → false = true) ∧ (((↑(List.length (lvT ts)) : Int) != ari BinOp.sub IntKind.i64 (0 : Int) (↑r : Int)) = false → (Array.size ts = (448 : Nat) ∧ True) ∧ (Array.size ts = (448 : Nat) ∧ Array.size ts = Array.size ts ∧ True) ∧ QE i ts ∧ CallKind.normal = CallKind.normal ∧ TodoOk (ren 1 [(1, 1)]) pE_d0 pE_d0 ∧ off = off ∧ n = n ∧ i = i ∧ ty = ty ∧ cs = cs ∧ (39 : TypeId) = (39 : TypeId) ∧ ts = ts ∧ True)) ∧ (decide (List.length (lvT ts) = (0 : Nat)) = false → (((↑(List.length (lvT ts)) : Int) != ari BinOp.sub IntKind.i64 (↑(List.length (lvT ts)) : Int) (↑r : Int)) = true → false = true) ∧ (((↑(List.length (lvT ts)) : Int) != ari BinOp.sub IntKind.i64 (↑(List.length (lvT ts)) : Int) (↑r : Int)) = false → (Array.size ts = (448 : Nat) ∧ True) ∧ (Array.size ts = (448 : Nat) ∧ Array.size ts = Array.size ts ∧ True) ∧ QE i ts ∧ CallKind.normal = CallKind.normal ∧ TodoOk (ren 1 [(1, 1)]) pE_d0 pE_d0 ∧ off = off ∧ n = n ∧ i = i ∧ ty = ty ∧ cs = cs ∧ (39 : TypeId) = (39 : TypeId) ∧ ts = ts ∧ True)))) ∧ ((((0 : Int) != (↑r : Int)) == false) = false → false = true)) ∧ (((!((4 : Int) == (0 : Int)) == goodB (Array.extract ts (0 : Nat) (64 : Nat)) h) == false) = false → false = true)) ∧ (decide (List.length (unT ts h) = (0 : Nat)) = false → (Array.size (fellT ts h) = (448 : Nat) ∧ Array.size (fellT ts h) = (448 : Nat) ∧ True) ∧ ((64 : Nat) ≤ Array.size ts ∧ True) ∧ (BkOk (Array.extract ts (0 : Nat) (64 : Nat)) ∧ ((0 : Int) ≤ h ∧ h < (4294967296 : Int)) ∧ True) ∧ (((!((0 : Int) == (0 : Int)) == goodB (Array.extract ts (0 : Nat) (64 : Nat)) h) == false) = true → ((((↑(List.length (unT ts h)) : Int) != (↑r : Int)) == false) = true → (Array.size (fellT ts h) = (448 : Nat) ∧ True) ∧ (TbOk (fellT ts h) ∧ True) ∧ (decide (List.length (lvT (fellT ts h)) = (0 : Nat)) = true → (Array.size ts = (448 : Nat) ∧ True) ∧ (TbOk ts ∧ True) ∧ (decide (List.length (lvT ts) = (0 : Nat)) = true → (((0 : Int) != ari BinOp.sub IntKind.i64 (0 : Int) (↑r : Int)) = true → false = true) ∧ (((0 : Int) != ari BinOp.sub IntKind.i64 (0 : Int) (↑r : Int)) = false → (Array.size (fellT ts h) = (448 : Nat) ∧ True) ∧ (Array.size (fellT ts h) = (448 : Nat) ∧ Array.size (fellT ts h) = Array.size ts ∧ True) ∧ QE i (fellT ts h) ∧ CallKind.normal = CallKind.normal ∧ TodoOk (ren 1 [(1, 1)]) pE_d0 pE_d0 ∧ off = off ∧ n = n ∧ i = i ∧ ty = ty ∧ cs = cs ∧ (39 : TypeId) = (39 : TypeId) ∧ fellT ts h = fellT ts h ∧ True)) ∧ (decide (List.length (lvT ts) = (0 : Nat)) = false → (((0 : Int) != ari BinOp.sub IntKind.i64 (↑(List.length (lvT ts)) : Int) (↑r : Int)) = true → false = true) ∧ (((0 : Int) != ari BinOp.sub IntKind.i64 (↑(List.length (lvT ts)) : Int) (↑r : Int)) = false → (Array.size (fellT ts h) = (448 : Nat) ∧ True) ∧ (Array.size (fellT ts h) = (448 : Nat) ∧ Array.size (fellT ts h) = Array.size ts ∧ True) ∧ QE i (fellT ts h) ∧ CallKind.normal = CallKind.normal ∧ TodoOk (ren 1 [(1, 1)]) pE_d0 pE_d0 ∧ off = off ∧ n = n ∧ i = i ∧ ty = ty ∧ cs = cs ∧ (39 : TypeId) = (39 : TypeId) ∧ fellT ts h = fellT ts h ∧ True))) ∧ (decide (List.length (lvT (fellT ts h)) = (0 : Nat)) = false → (Array.size ts = (448 : Nat) ∧ True) ∧ (TbOk ts ∧ True) ∧ (decide (List.length (lvT ts) = (0 : Nat)) = true → (((↑(List.length (lvT (fellT ts h))) : Int) != ari BinOp.sub IntKind.i64 (0 : Int) (↑r : Int)) = true → false = true) ∧ (((↑(List.length (lvT (fellT ts h))) : Int) != ari BinOp.sub IntKind.i64 (0 : Int) (↑r : Int)) = false → (Array.size (fellT ts h) = (448 : Nat) ∧ True) ∧ (Array.size (fellT ts h) = (448 : Nat) ∧ Array.size (fellT ts h) = Array.size ts ∧ True) ∧ QE i (fellT ts h) ∧ CallKind.normal = CallKind.normal ∧ TodoOk (ren 1 [(1, 1)]) pE_d0 pE_d0 ∧ off = off ∧ n = n ∧ i = i ∧ ty = ty ∧ cs = cs ∧ (39 : TypeId) = (39 : TypeId) ∧ fellT ts h = fellT ts h ∧ True)) ∧ (decide (List.length (lvT ts) = (0 : Nat)) = false → (((↑(List.length (lvT (fellT ts h))) : Int) != ari BinOp.sub IntKind.i64 (↑(List.length (lvT ts)) : Int) (↑r : Int)) = true → false = true) ∧ (((↑(List.length (lvT (fellT ts h))) : Int) != ari BinOp.sub IntKind.i64 (↑(List.length (lvT ts)) : Int) (↑r : Int)) = false → (Array.size (fellT ts h) = (448 : Nat) ∧ True) ∧ (Array.size (fellT ts h) = (448 : Nat) ∧ Array.size (fellT ts h) = Array.size ts ∧ True) ∧ QE i (fellT ts h) ∧ CallKind.normal = CallKind.normal ∧ TodoOk (ren 1 [(1, 1)]) pE_d0 pE_d0 ∧ off = off ∧ n = n ∧ i = i ∧ ty = ty ∧ cs = cs ∧ (39 : TypeId) = (39 : TypeId) ∧ fellT ts h = fellT ts h ∧ True)))) ∧ ((((↑(List.length (unT ts h)) : Int) != (↑r : Int)) == false) = false → false = true)) ∧ (((!((0 : Int) == (0 : Int)) == goodB (Array.extract ts (0 : Nat) (64 : Nat)) h) == false) = false → false = true))) ∧ ((d == (0 : Int)) = false → ((d == (1 : Int)) = true → (Array.size ts = (448 : Nat) ∧ True) ∧ (FIn ts ∧ ((0 : Int) ≤ h ∧ h < (4294967296 : Int)) ∧ True) ∧ (Array.size (cutT ts h) = (448 : Nat) ∧ Array.size (cutT ts h) = Array.size ts ∧ True) ∧ QC i (cutT ts h) h was (0 : Int) ∧ CallKind.normal = CallKind.normal ∧ TodoOk (ren 1 [(1, 1), (3, 3), (4, 4)]) pC_d0 pC_d0 ∧ off = off ∧ n = n ∧ r = r ∧ i = i ∧ (0 : Int) = (0 : Int) ∧ h = h ∧ ty = ty ∧ cs = cs ∧ (39 : TypeId) = (39 : TypeId) ∧ cutT ts h = cutT ts h ∧ (39 : TypeId) = (39 : TypeId) ∧ was = was ∧ (30 : TypeId) = (30 : TypeId) ∧ ks = ks ∧ True) ∧ ((d == (1 : Int)) = false → ((d == (2 : Int)) = true → (Array.size ts = (448 : Nat) ∧ True) ∧ (FIn ts ∧ ((0 : Int) ≤ h ∧ h < (4294967296 : Int)) ∧ ((0 : Int) ≤ b ∧ b < (4294967296 : Int)) ∧ True) ∧ (Array.size (grT ts h b) = (448 : Nat) ∧ Array.size (grT ts h b) = (448 : Nat) ∧ True) ∧ (((grE ts h b == (0 : Int)) == true) = true → (Array.size (grT ts h b) = (448 : Nat) ∧ True) ∧ (FIn (grT ts h b) ∧ ((0 : Int) ≤ h ∧ h < (4294967296 : Int)) ∧ True) ∧ (Array.size ts = (448 : Nat) ∧ True) ∧ (FIn ts ∧ ((0 : Int) ≤ b ∧ b < (4294967296 : Int)) ∧ True) ∧ ((rtF (grT ts h b) h != rtF ts b) = true → false = true) ∧ ((rtF (grT ts h b) h != rtF ts b) = false → (Array.size (grT ts h b) = (448 : Nat) ∧ True) ∧ (Array.size (grT ts h b) = (448 : Nat) ∧ Array.size (grT ts h b) = Array.size ts ∧ True) ∧ QE i (grT ts h b) ∧ CallKind.normal = CallKind.normal ∧ TodoOk (ren 1 [(1, 1)]) pE_d0 pE_d0 ∧ off = off ∧ n = n ∧ i = i ∧ ty = ty ∧ cs = cs ∧ (39 : TypeId) = (39 : TypeId) ∧ grT ts h b = grT ts h b ∧ True)) ∧ (((grE ts h b == (0 : Int)) == true) = false → (Array.size (grT ts h b) = (448 : Nat) ∧ True) ∧ (Array.size (grT ts h b) = (448 : Nat) ∧ Array.size (grT ts h b) = Array.size ts ∧ True) ∧ QE i (grT ts h b) ∧ CallKind.normal = CallKind.normal ∧ TodoOk (ren 1 [(1, 1)]) pE_d0 pE_d0 ∧ off = off ∧ n = n ∧ i = i ∧ ty = ty ∧ cs = cs ∧ (39 : TypeId) = (39 : TypeId) ∧ grT ts h b = grT ts h b ∧ True)) ∧ ((d == (2 : Int)) = false → ((d == (3 : Int)) = true → (Array.size ts = (448 : Nat) ∧ True) ∧ (TbOk ts ∧ ((0 : Int) ≤ h ∧ h < (4294967296 : Int)) ∧ True) ∧ (Array.size (getA ts h) = (12 : Nat) ∧ Array.size (getA ts h) = (12 : Nat) ∧ True) ∧ (((0 : Int) ≤ ari BinOp.rem IntKind.u32 b (8 : Int) ∧ ari BinOp.rem IntKind.u32 b (8 : Int) < (8 : Int)) ∧ True) ∧ ((4 : Nat) + Int.toNat (ari BinOp.rem IntKind.u32 b (8 : Int)) * 1 < Array.size (getA ts h) ∧ True) ∧ ((getX5 ts h == (0 : Int)) = true → (Array.size ts = (448 : Nat) ∧ True) ∧ (IsInt IntKind.u32 (Array.setIfInBounds (getA ts h) ((4 : Nat) + Int.toNat (ari BinOp.rem IntKind.u32 b (8 : Int)) * 1) (Value.int IntKind.u32 c)) (0 : Nat) ∧ IsInt IntKind.i64 (Array.setIfInBounds (getA ts h) ((4 : Nat) + Int.toNat (ari BinOp.rem IntKind.u32 b (8 : Int)) * 1) (Value.int IntKind.u32 c)) (1 : Nat) ∧ (Array.setIfInBounds (getA ts h) ((4 : Nat) + Int.toNat (ari BinOp.rem IntKind.u32 b (8 : Int)) * 1) (Value.int IntKind.u32 c))[(2 : Nat)]? = some (Value.slice none (0 : Nat) (0 : Nat)) ∧ IsInt IntKind.i64 (Array.setIfInBounds (getA ts h) ((4 : Nat) + Int.toNat (ari BinOp.rem IntKind.u32 b (8 : Int)) * 1) (Value.int IntKind.u32 c)) (3 : Nat) ∧ IsInt IntKind.u32 (Array.setIfInBounds (getA ts h) ((4 : Nat) + Int.toNat (ari BinOp.rem IntKind.u32 b (8 : Int)) * 1) (Value.int IntKind.u32 c)) (4 : Nat) ∧ IsInt IntKind.u32 (Array.setIfInBounds (getA ts h) ((4 : Nat) + Int.toNat (ari BinOp.rem IntKind.u32 b (8 : Int)) * 1) (Value.int IntKind.u32 c)) (5 : Nat) ∧ IsInt IntKind.u32 (Array.setIfInBounds (getA ts h) ((4 : Nat) + Int.toNat (ari BinOp.rem IntKind.u32 b (8 : Int)) * 1) (Value.int IntKind.u32 c)) (6 : Nat) ∧ IsInt IntKind.u32 (Array.setIfInBounds (getA ts h) ((4 : Nat) + Int.toNat (ari BinOp.rem IntKind.u32 b (8 : Int)) * 1) (Value.int IntKind.u32 c)) (7 : Nat) ∧ IsInt IntKind.u32 (Array.setIfInBounds (getA ts h) ((4 : Nat) + Int.toNat (ari BinOp.rem IntKind.u32 b (8 : Int)) * 1) (Value.int IntKind.u32 c)) (8 : Nat) ∧ IsInt IntKind.u32 (Array.setIfInBounds (getA ts h) ((4 : Nat) + Int.toNat (ari BinOp.rem IntKind.u32 b (8 : Int)) * 1) (Value.int IntKind.u32 c)) (9 : Nat) ∧ IsInt IntKind.u32 (Array.setIfInBounds (getA ts h) ((4 : Nat) + Int.toNat (ari BinOp.rem IntKind.u32 b (8 : Int)) * 1) (Value.int IntKind.u32 c)) (10 : Nat) ∧ IsInt IntKind.u32 (Array.setIfInBounds (getA ts h) ((4 : Nat) + Int.toNat (ari BinOp.rem IntKind.u32 b (8 : Int)) * 1) (Value.int IntKind.u32 c)) (11 : Nat) ∧ True) ∧ (TbOk ts ∧ ((0 : Int) ≤ h ∧ h < (4294967296 : Int)) ∧ RgOk (lsA (intAt (Array.setIfInBounds (getA ts h) ((4 : Nat) + Int.toNat (ari BinOp.rem IntKind.u32 b (8 : Int)) * 1) (Value.int IntKind.u32 c)) (0 : Nat)) (intAt (Array.setIfInBounds (getA ts h) ((4 : Nat) + Int.toNat (ari BinOp.rem IntKind.u32 b (8 : Int)) * 1) (Value.int IntKind.u32 c)) (1 : Nat)) (intAt (Array.setIfInBounds (getA ts h) ((4 : Nat) + Int.toNat (ari BinOp.rem IntKind.u32 b (8 : Int)) * 1) (Value.int IntKind.u32 c)) (3 : Nat)) (intAt (Array.setIfInBounds (getA ts h) ((4 : Nat) + Int.toNat (ari BinOp.rem IntKind.u32 b (8 : Int)) * 1) (Value.int IntKind.u32 c)) (4 : Nat)) (intAt (Array.setIfInBounds (getA ts h) ((4 : Nat) + Int.toNat (ari BinOp.rem IntKind.u32 b (8 : Int)) * 1) (Value.int IntKind.u32 c)) (5 : Nat)) (intAt (Array.setIfInBounds (getA ts h) ((4 : Nat) + Int.toNat (ari BinOp.rem IntKind.u32 b (8 : Int)) * 1) (Value.int IntKind.u32 c)) (6 : Nat)) (intAt (Array.setIfInBounds (getA ts h) ((4 : Nat) + Int.toNat (ari BinOp.rem IntKind.u32 b (8 : Int)) * 1) (Value.int IntKind.u32 c)) (7 : Nat)) (intAt (Array.setIfInBounds (getA ts h) ((4 : Nat) + Int.toNat (ari BinOp.rem IntKind.u32 b (8 : Int)) * 1) (Value.int IntKind.u32 c)) (8 : Nat)) (intAt (Array.setIfInBounds (getA ts h) ((4 : Nat) + Int.toNat (ari BinOp.rem IntKind.u32 b (8 : Int)) * 1) (Value.int IntKind.u32 c)) (9 : Nat)) (intAt (Array.setIfInBounds (getA ts h) ((4 : Nat) + Int.toNat (ari BinOp.rem IntKind.u32 b (8 : Int)) * 1) (Value.int IntKind.u32 c)) (10 : Nat)) (intAt (Array.setIfInBounds (getA ts h) ((4 : Nat) + Int.toNat (ari BinOp.rem IntKind.u32 b (8 : Int)) * 1) (Value.int IntKind.u32 c)) (11 : Nat))) (0 : Nat) ∧ True) ∧ (Array.size (setT ts h (lsA (intAt (Array.setIfInBounds (getA ts h) ((4 : Nat) + Int.toNat (ari BinOp.rem IntKind.u32 b (8 : Int)) * 1) (Value.int IntKind.u32 c)) (0 : Nat)) (intAt (Array.setIfInBounds (getA ts h) ((4 : Nat) + Int.toNat (ari BinOp.rem IntKind.u32 b (8 : Int)) * 1) (Value.int IntKind.u32 c)) (1 : Nat)) (intAt (Array.setIfInBounds (getA ts h) ((4 : Nat) + Int.toNat (ari BinOp.rem IntKind.u32 b (8 : Int)) * 1) (Value.int IntKind.u32 c)) (3 : Nat)) (intAt (Array.setIfInBounds (getA ts h) ((4 : Nat) + Int.toNat (ari BinOp.rem IntKind.u32 b (8 : Int)) * 1) (Value.int IntKind.u32 c)) (4 : Nat)) (intAt (Array.setIfInBounds (getA ts h) ((4 : Nat) + Int.toNat (ari BinOp.rem IntKind.u32 b (8 : Int)) * 1) (Value.int IntKind.u32 c)) (5 : Nat)) (intAt (Array.setIfInBounds (getA ts h) ((4 : Nat) + Int.toNat (ari BinOp.rem IntKind.u32 b (8 : Int)) * 1) (Value.int IntKind.u32 c)) (6 : Nat)) (intAt (Array.setIfInBounds (getA ts h) ((4 : Nat) + Int.toNat (ari BinOp.rem IntKind.u32 b (8 : Int)) * 1) (Value.int IntKind.u32 c)) (7 : Nat)) (intAt (Array.setIfInBounds (getA ts h) ((4 : Nat) + Int.toNat (ari BinOp.rem IntKind.u32 b (8 : Int)) * 1) (Value.int IntKind.u32 c)) (8 : Nat)) (intAt (Array.setIfInBounds (getA ts h) ((4 : Nat) + Int.toNat (ari BinOp.rem IntKind.u32 b (8 : Int)) * 1) (Value.int IntKind.u32 c)) (9 : Nat)) (intAt (Array.setIfInBounds (getA ts h) ((4 : Nat) + Int.toNat (ari BinOp.rem IntKind.u32 b (8 : Int)) * 1) (Value.int IntKind.u32 c)) (10 : Nat)) (intAt (Array.setIfInBounds (getA ts h) ((4 : Nat) + Int.toNat (ari BinOp.rem IntKind.u32 b (8 : Int)) * 1) (Value.int IntKind.u32 c)) (11 : Nat)))) = (448 : Nat) ∧ Array.size (setT ts h (lsA (intAt (Array.setIfInBounds (getA ts h) ((4 : Nat) + Int.toNat (ari BinOp.rem IntKind.u32 b (8 : Int)) * 1) (Value.int IntKind.u32 c)) (0 : Nat)) (intAt (Array.setIfInBounds (getA ts h) ((4 : Nat) + Int.toNat (ari BinOp.rem IntKind.u32 b (8 : Int)) * 1) (Value.int IntKind.u32 c)) (1 : Nat)) (intAt (Array.setIfInBounds (getA ts h) ((4 : Nat) + Int.toNat (ari BinOp.rem IntKind.u32 b (8 : Int)) * 1) (Value.int IntKind.u32 c)) (3 : Nat)) (intAt (Array.setIfInBounds (getA ts h) ((4 : Nat) + Int.toNat (ari BinOp.rem IntKind.u32 b (8 : Int)) * 1) (Value.int IntKind.u32 c)) (4 : Nat)) (intAt (Array.setIfInBounds (getA ts h) ((4 : Nat) + Int.toNat (ari BinOp.rem IntKind.u32 b (8 : Int)) * 1) (Value.int IntKind.u32 c)) (5 : Nat)) (intAt (Array.setIfInBounds (getA ts h) ((4 : Nat) + Int.toNat (ari BinOp.rem IntKind.u32 b (8 : Int)) * 1) (Value.int IntKind.u32 c)) (6 : Nat)) (intAt (Array.setIfInBounds (getA ts h) ((4 : Nat) + Int.toNat (ari BinOp.rem IntKind.u32 b (8 : Int)) * 1) (Value.int IntKind.u32 c)) (7 : Nat)) (intAt (Array.setIfInBounds (getA ts h) ((4 : Nat) + Int.toNat (ari BinOp.rem IntKind.u32 b (8 : Int)) * 1) (Value.int IntKind.u32 c)) (8 : Nat)) (intAt (Array.setIfInBounds (getA ts h) ((4 : Nat) + Int.toNat (ari BinOp.rem IntKind.u32 b (8 : Int)) * 1) (Value.int IntKind.u32 c)) (9 : Nat)) (intAt (Array.setIfInBounds (getA ts h) ((4 : Nat) + Int.toNat (ari BinOp.rem IntKind.u32 b (8 : Int)) * 1) (Value.int IntKind.u32 c)) (10 : Nat)) (intAt (Array.setIfInBounds (getA ts h) ((4 : Nat) + Int.toNat (ari BinOp.rem IntKind.u32 b (8 : Int)) * 1) (Value.int IntKind.u32 c)) (11 : Nat)))) = Array.size ts ∧ True) ∧ QE i (setT ts h (lsA (intAt (Array.setIfInBounds (getA ts h) ((4 : Nat) + Int.toNat (ari BinOp.rem IntKind.u32 b (8 : Int)) * 1) (Value.int IntKind.u32 c)) (0 : Nat)) (intAt (Array.setIfInBounds (getA ts h) ((4 : Nat) + Int.toNat (ari BinOp.rem IntKind.u32 b (8 : Int)) * 1) (Value.int IntKind.u32 c)) (1 : Nat)) (intAt (Array.setIfInBounds (getA ts h) ((4 : Nat) + Int.toNat (ari BinOp.rem IntKind.u32 b (8 : Int)) * 1) (Value.int IntKind.u32 c)) (3 : Nat)) (intAt (Array.setIfInBounds (getA ts h) ((4 : Nat) + Int.toNat (ari BinOp.rem IntKind.u32 b (8 : Int)) * 1) (Value.int IntKind.u32 c)) (4 : Nat)) (intAt (Array.setIfInBounds (getA ts h) ((4 : Nat) + Int.toNat (ari BinOp.rem IntKind.u32 b (8 : Int)) * 1) (Value.int IntKind.u32 c)) (5 : Nat)) (intAt (Array.setIfInBounds (getA ts h) ((4 : Nat) + Int.toNat (ari BinOp.rem IntKind.u32 b (8 : Int)) * 1) (Value.int IntKind.u32 c)) (6 : Nat)) (intAt (Array.setIfInBounds (getA ts h) ((4 : Nat) + Int.toNat (ari BinOp.rem IntKind.u32 b (8 : Int)) * 1) (Value.int IntKind.u32 c)) (7 : Nat)) (intAt (Array.setIfInBounds (getA ts h) ((4 : Nat) + Int.toNat (ari BinOp.rem IntKind.u32 b (8 : Int)) * 1) (Value.int IntKind.u32 c)) (8 : Nat)) (intAt (Array.setIfInBounds (getA ts h) ((4 : Nat) + Int.toNat (ari BinOp.rem IntKind.u32 b (8 : Int)) * 1) (Value.int IntKind.u32 c)) (9 : Nat)) (intAt (Array.setIfInBounds (getA ts h) ((4 : Nat) + Int.toNat (ari BinOp.rem IntKind.u32 b (8 : Int)) * 1) (Value.int IntKind.u32 c)) (10 : Nat)) (intAt (Array.setIfInBounds (getA ts h) ((4 : Nat) + Int.toNat (ari BinOp.rem IntKind.u32 b (8 : Int)) * 1) (Value.int IntKind.u32 c)) (11 : Nat)))) ∧ CallKind.normal = CallKind.normal ∧ TodoOk (ren 1 [(1, 1)]) pE_d0 pE_d0 ∧ off = off ∧ n = n ∧ i = i ∧ ty = ty ∧ cs = cs ∧ (39 : TypeId) = (39 : TypeId) ∧ setT ts h (lsA (intAt (Array.setIfInBounds (getA ts h) ((4 : Nat) + Int.toNat (ari BinOp.rem IntKind.u32 b (8 : Int)) * 1) (Value.int IntKind.u32 c)) (0 : Nat)) (intAt (Array.setIfInBounds (getA ts h) ((4 : Nat) + Int.toNat (ari BinOp.rem IntKind.u32 b (8 : Int)) * 1) (Value.int IntKind.u32 c)) (1 : Nat)) (intAt (Array.setIfInBounds (getA ts h) ((4 : Nat) + Int.toNat (ari BinOp.rem IntKind.u32 b (8 : Int)) * 1) (Value.int IntKind.u32 c)) (3 : Nat)) (intAt (Array.setIfInBounds (getA ts h) ((4 : Nat) + Int.toNat (ari BinOp.rem IntKind.u32 b (8 : Int)) * 1) (Value.int IntKind.u32 c)) (4 : Nat)) (intAt (Array.setIfInBounds (getA ts h) ((4 : Nat) + Int.toNat (ari BinOp.rem IntKind.u32 b (8 : Int)) * 1) (Value.int IntKind.u32 c)) (5 : Nat)) (intAt (Array.setIfInBounds (getA ts h) ((4 : Nat) + Int.toNat (ari BinOp.rem IntKind.u32 b (8 : Int)) * 1) (Value.int IntKind.u32 c)) (6 : Nat)) (intAt (Array.setIfInBounds (getA ts h) ((4 : Nat) + Int.toNat (ari BinOp.rem IntKind.u32 b (8 : Int)) * 1) (Value.int IntKind.u32 c)) (7 : Nat)) (intAt (Array.setIfInBounds (getA ts h) ((4 : Nat) + Int.toNat (ari BinOp.rem IntKind.u32 b (8 : Int)) * 1) (Value.int IntKind.u32 c)) (8 : Nat)) (intAt (Array.setIfInBounds (getA ts h) ((4 : Nat) + Int.toNat (ari BinOp.rem IntKind.u32 b (8 : Int)) * 1) (Value.int IntKind.u32 c)) (9 : Nat)) (intAt (Array.setIfInBounds (getA ts h) ((4 : Nat) + Int.toNat (ari BinOp.rem IntKind.u32 b (8 : Int)) * 1) (Value.int IntKind.u32 c)) (10 : Nat)) (intAt (Array.setIfInBounds (getA ts h) ((4 : Nat) + Int.toNat (ari BinOp.rem IntKind.u32 b (8 : Int)) * 1) (Value.int IntKind.u32 c)) (11 : Nat))) = setT ts h (lsA (intAt (Array.setIfInBounds (getA ts h) ((4 : Nat) + Int.toNat (ari BinOp.rem IntKind.u32 b (8 : Int)) * 1) (Value.int IntKind.u32 c)) (0 : Nat)) (intAt (Array.setIfInBounds (getA ts h) ((4 : Nat) + Int.toNat (ari BinOp.rem IntKind.u32 b (8 : Int)) * 1) (Value.int IntKind.u32 c)) (1 : Nat)) (intAt (Array.setIfInBounds (getA ts h) ((4 : Nat) + Int.toNat (ari BinOp.rem IntKind.u32 b (8 : Int)) * 1) (Value.int IntKind.u32 c)) (3 : Nat)) (intAt (Array.setIfInBounds (getA ts h) ((4 : Nat) + Int.toNat (ari BinOp.rem IntKind.u32 b (8 : Int)) * 1) (Value.int IntKind.u32 c)) (4 : Nat)) (intAt (Array.setIfInBounds (getA ts h) ((4 : Nat) + Int.toNat (ari BinOp.rem IntKind.u32 b (8 : Int)) * 1) (Value.int IntKind.u32 c)) (5 : Nat)) (intAt (Array.setIfInBounds (getA ts h) ((4 : Nat) + Int.toNat (ari BinOp.rem IntKind.u32 b (8 : Int)) * 1) (Value.int IntKind.u32 c)) (6 : Nat)) (intAt (Array.setIfInBounds (getA ts h) ((4 : Nat) + Int.toNat (ari BinOp.rem IntKind.u32 b (8 : Int)) * 1) (Value.int IntKind.u32 c)) (7 : Nat)) (intAt (Array.setIfInBounds (getA ts h) ((4 : Nat) + Int.toNat (ari BinOp.rem IntKind.u32 b (8 : Int)) * 1) (Value.int IntKind.u32 c)) (8 : Nat)) (intAt (Array.setIfInBounds (getA ts h) ((4 : Nat) + Int.toNat (ari BinOp.rem IntKind.u32 b (8 : Int)) * 1) (Value.int IntKind.u32 c)) (9 : Nat)) (intAt (Array.setIfInBounds (getA ts h) ((4 : Nat) + Int.toNat (ari BinOp.rem IntKind.u32 b (8 : Int)) * 1) (Value.int IntKind.u32 c)) (10 : Nat)) (intAt (Array.setIfInBounds (getA ts h) ((4 : Nat) + Int.toNat (ari BinOp.rem IntKind.u32 b (8 : Int)) * 1) (Value.int IntKind.u32 c)) (11 : Nat))) ∧ True) ∧ ((getX5 ts h == (0 : Int)) = false → QE i ts ∧ CallKind.normal = CallKind.normal ∧ TodoOk (ren 1 [(1, 1)]) pE_d0 pE_d0 ∧ off = off ∧ n = n ∧ i = i ∧ ty = ty ∧ cs = cs ∧ (39 : TypeId) = (39 : TypeId) ∧ ts = ts ∧ True)) ∧ ((d == (3 : Int)) = false → (Array.size ts = (448 : Nat) ∧ True) ∧ (FIn ts ∧ ((0 : Int) ≤ h ∧ h < (4294967296 : Int)) ∧ True) ∧ (Array.size (fnT ts h q) = (448 : Nat) ∧ Array.size (fnT ts h q) = Array.size ts ∧ True) ∧ QE i (fnT ts h q) ∧ CallKind.normal = CallKind.normal ∧ TodoOk (ren 1 [(1, 1)]) pE_d0 pE_d0 ∧ off = off ∧ n = n ∧ i = i ∧ ty = ty ∧ cs = cs ∧ (39 : TypeId) = (39 : TypeId) ∧ fnT ts h q = fnT ts h q ∧ True))))) := by kernel_rfl
theorem vCF (off : Nat) (n : Nat) (cs : Array Value) (ty : TypeId) (r : Nat) (ks : Array Value) (i : Int) (ts : Array Value) (h : Int) (was : Array Value) (k : Int) (QC : Int → Array Value → Int → Array Value → Int → Prop) (QD : Int → Array Value → Int → Array Value → Int → Array Value → Int → Prop) (QE : Int → Array Value → Prop) : (vC_t off n cs ty r ks i ts h was k).vc (isB true) (vC_x off n cs ty r ks i ts h was k QC QD QE) =
    ((decide (k < (↑r : Int)) = true → (Array.size ts = (448 : Nat) ∧ True) ∧ (((0 : Int) ≤ k ∧ k < (↑r : Int)) ∧ True) ∧ (IsInt IntKind.u32 ks ((0 : Nat) + Int.toNat k * 1) ∧ True) ∧ (TbOk ts ∧ ((0 : Int) ≤ intAt ks ((0 : Nat) + Int.toNat k * 1) ∧ intAt ks ((0 : Nat) + Int.toNat k * 1) < (4294967296 : Int)) ∧ True) ∧ (Array.size (getA ts (intAt ks ((0 : Nat) + Int.toNat k * 1))) = (12 : Nat) ∧ Array.size (getA ts (intAt ks ((0 : Nat) + Int.toNat k * 1))) = (12 : Nat) ∧ True) ∧ (((getX5 ts (intAt ks ((0 : Nat) + Int.toNat k * 1)) != (0 : Int)) == false) = true → (Array.size ts = (448 : Nat) ∧ True) ∧ (((0 : Int) ≤ k ∧ k < (↑r : Int)) ∧ True) ∧ (IsInt IntKind.u32 ks ((0 : Nat) + Int.toNat k * 1) ∧ True) ∧ (FIn ts ∧ ((0 : Int) ≤ intAt ks ((0 : Nat) + Int.toNat k * 1) ∧ intAt ks ((0 : Nat) + Int.toNat k * 1) < (4294967296 : Int)) ∧ True) ∧ ((rtF ts (intAt ks ((0 : Nat) + Int.toNat k * 1)) != h) = true → false = true) ∧ ((rtF ts (intAt ks ((0 : Nat) + Int.toNat k * 1)) != h) = false → QD i ts h was k (getA ts (intAt ks ((0 : Nat) + Int.toNat k * 1))) (0 : Int) ∧ CallKind.normal = CallKind.normal ∧ TodoOk (ren 1 [(1, 1), (3, 3), (4, 4), (5, 5)]) pD_d0 pD_d0 ∧ off = off ∧ n = n ∧ r = r ∧ (0 : Int) = (0 : Int) ∧ i = i ∧ k = k ∧ h = h ∧ ty = ty ∧ cs = cs ∧ (39 : TypeId) = (39 : TypeId) ∧ ts = ts ∧ (39 : TypeId) = (39 : TypeId) ∧ was = was ∧ (36 : TypeId) = (36 : Nat) ∧ getA ts (intAt ks ((0 : Nat) + Int.toNat k * 1)) = getA ts (intAt ks ((0 : Nat) + Int.toNat k * 1)) ∧ (30 : TypeId) = (30 : TypeId) ∧ ks = ks ∧ True)) ∧ (((getX5 ts (intAt ks ((0 : Nat) + Int.toNat k * 1)) != (0 : Int)) == false) = false → false = true)) ∧ (decide (k < (↑r : Int)) = false → QE i ts ∧ CallKind.normal = CallKind.normal ∧ TodoOk (ren 1 [(1, 1)]) pE_d0 pE_d0 ∧ off = off ∧ n = n ∧ i = i ∧ ty = ty ∧ cs = cs ∧ (39 : TypeId) = (39 : TypeId) ∧ ts = ts ∧ True)) := by kernel_rfl
theorem vDF (off : Nat) (n : Nat) (cs : Array Value) (ty : TypeId) (r : Nat) (ks : Array Value) (i : Int) (ts : Array Value) (h : Int) (was : Array Value) (k : Int) (rr : Array Value) (e : Int) (QD : Int → Array Value → Int → Array Value → Int → Array Value → Int → Prop) (QC : Int → Array Value → Int → Array Value → Int → Prop) : (vD_t off n cs ty r ks i ts h was k rr e).vc (isB true) (vD_x off n cs ty r ks i ts h was k rr e QD QC) =
    ((decide (e < (8 : Int)) = true → (((0 : Int) ≤ e ∧ e < (8 : Int)) ∧ True) ∧ (IsInt IntKind.u32 rr ((4 : Nat) + Int.toNat e * 1) ∧ True) ∧ (((intAt rr ((4 : Nat) + Int.toNat e * 1) != h) == true) = true → (Array.size was = (448 : Nat) ∧ True) ∧ (FIn was ∧ ((0 : Int) ≤ h ∧ h < (4294967296 : Int)) ∧ True) ∧ (outF was (intAt rr ((4 : Nat) + Int.toNat e * 1)) h = true → false = true) ∧ (outF was (intAt rr ((4 : Nat) + Int.toNat e * 1)) h = false → QD i ts h was k rr (ari BinOp.add IntKind.i64 e (1 : Int)) ∧ CallKind.normal = CallKind.normal ∧ TodoOk (ren 1 [(1, 1), (3, 3), (4, 4), (5, 5)]) pD_d0 pD_d0 ∧ off = off ∧ n = n ∧ r = r ∧ ari BinOp.add IntKind.i64 e (1 : Int) = ari BinOp.add IntKind.i64 e (1 : Int) ∧ i = i ∧ k = k ∧ h = h ∧ ty = ty ∧ cs = cs ∧ (39 : TypeId) = (39 : TypeId) ∧ ts = ts ∧ (39 : TypeId) = (39 : TypeId) ∧ was = was ∧ (36 : TypeId) = (36 : TypeId) ∧ rr = rr ∧ (30 : TypeId) = (30 : TypeId) ∧ ks = ks ∧ True)) ∧ (((intAt rr ((4 : Nat) + Int.toNat e * 1) != h) == true) = false → QD i ts h was k rr (ari BinOp.add IntKind.i64 e (1 : Int)) ∧ CallKind.normal = CallKind.normal ∧ TodoOk (ren 1 [(1, 1), (3, 3), (4, 4), (5, 5)]) pD_d0 pD_d0 ∧ off = off ∧ n = n ∧ r = r ∧ ari BinOp.add IntKind.i64 e (1 : Int) = ari BinOp.add IntKind.i64 e (1 : Int) ∧ i = i ∧ k = k ∧ h = h ∧ ty = ty ∧ cs = cs ∧ (39 : TypeId) = (39 : TypeId) ∧ ts = ts ∧ (39 : TypeId) = (39 : TypeId) ∧ was = was ∧ (36 : TypeId) = (36 : TypeId) ∧ rr = rr ∧ (30 : TypeId) = (30 : TypeId) ∧ ks = ks ∧ True)) ∧ (decide (e < (8 : Int)) = false → QC i ts h was (ari BinOp.add IntKind.i64 k (1 : Int)) ∧ CallKind.normal = CallKind.normal ∧ TodoOk (ren 1 [(1, 1), (3, 3), (4, 4)]) pC_d0 pC_d0 ∧ off = off ∧ n = n ∧ r = r ∧ i = i ∧ ari BinOp.add IntKind.i64 k (1 : Int) = ari BinOp.add IntKind.i64 k (1 : Int) ∧ h = h ∧ ty = ty ∧ cs = cs ∧ (39 : TypeId) = (39 : TypeId) ∧ ts = ts ∧ (39 : TypeId) = (39 : TypeId) ∧ was = was ∧ (30 : TypeId) = (30 : TypeId) ∧ ks = ks ∧ True)) := by kernel_rfl
theorem vEF (off : Nat) (n : Nat) (cs : Array Value) (ty : TypeId) (i : Int) (ts : Array Value) (Q : Int → Array Value → Prop) : (vE_t off n cs ty i ts).vc (isB true) (vE_x off n cs ty i ts Q) =
    ((Array.size ts = (448 : Nat) ∧ True) ∧ (FIn ts ∧ D6 ts ∧ True) ∧ Q (ari BinOp.add IntKind.i64 i (1 : Int)) ts ∧ CallKind.normal = CallKind.normal ∧ TodoOk (ren 1 [(1, 1)]) pL_d0 pL_d0 ∧ off = off ∧ n = n ∧ ari BinOp.add IntKind.i64 i (1 : Int) = ari BinOp.add IntKind.i64 i (1 : Int) ∧ ty = ty ∧ cs = cs ∧ (39 : TypeId) = (39 : TypeId) ∧ ts = ts ∧ True) := by kernel_rfl
end Go.Proofs.YtklhlkdpidkijaaDoor
/- Of forests: what every act leaves: ways upwards that end, none too deep; nothing that never was is above. No condition. -/
namespace Go.Proofs.YtklhlkdpidkijaaDoor
set_option maxRecDepth 100000
set_option linter.unusedVariables false
def OD (ts : Array Value) : Prop := ∀ x, gdF ts x = true → upR ts x = 0 ∨ usedB (bkB ts) (upR ts x)
structure FV (ts : Array Value) : Prop where
  f : FIn ts
  d : D6 ts
  o : OD ts
def vEq : Option Value → Option Value → Bool
  | some (.int k a), some (.int k' b) => decide (k = k') && decide (a = b)
  | some (.slice none 0 0), some (.slice none 0 0) => true
  | _, _ => false
theorem vEq_ok {a b : Option Value} (h : vEq a b = true) : a = b := by
  unfold vEq at h
  split at h
  · simp only [Bool.and_eq_true, decide_eq_true_eq] at h
    rw [h.1, h.2]
  · rfl
  · cases h
theorem zT_book : ∀ i, i < 32 → vEq (zT[i * 2]?) (some (.int .u32 0)) = true ∧ vEq (zT[i * 2 + 1]?) (some (.int .u8 0)) = true := by decide +kernel
theorem zT_rg : ∀ i, i < 32 → ∀ k, k < 12 → vEq (zT[64 + i * 12 + k]?) ((rgA 0 0 0 fun _ => 0)[k]?) = true := by decide +kernel
theorem z_bk {i : Nat} (hi : i < 32) : (bkB zT)[i * 2]? = some (.int .u32 0) ∧ (bkB zT)[i * 2 + 1]? = some (.int .u8 0) := by
  obtain ⟨h1, h2⟩ := zT_book i hi
  have h1 := vEq_ok h1
  have h2 := vEq_ok h2
  have hs := zT_sz
  unfold bkB
  rw [ext_get (by omega) (by omega), ext_get (by omega) (by omega), Nat.zero_add, Nat.zero_add]
  exact ⟨h1, h2⟩
theorem z_kind {i : Nat} (hi : i < 32) : kindAt (bkB zT) i = 0 := intAt_of (z_bk hi).2
theorem z_age {i : Nat} (hi : i < 32) : ageAt (bkB zT) i = 0 := intAt_of (z_bk hi).1
theorem z_bkok : BkOk (bkB zT) := by
  refine ⟨by unfold bkB; rw [ext_size (by rw [zT_sz]; decide)], fun i hi => isI_of (z_bk hi).1, fun i hi => isI_of (z_bk hi).2, fun i hi => ?_, fun i hi => ?_⟩
  · rw [z_age hi]; exact ⟨by decide, by decide⟩
  · rw [z_kind hi]; exact ⟨by decide, by decide⟩
theorem z_tb : TbOk zT := ⟨zT_sz, z_bkok, fun i hi => (rg_new (us := zT) (p := 64 + i * 12) (u := 0) (q := 0) (c := fun _ => 0) (fun k hk => vEq_ok (zT_rg i hi k hk)) ⟨by decide, by decide⟩ ⟨by decide, by decide⟩ (fun _ _ => ⟨by decide, by decide⟩)).1⟩
theorem z_gd (x : Int) : gdF zT x = false := by
  cases c : gdF zT x with
  | false => rfl
  | true =>
    obtain ⟨_, _, s3, s4, _⟩ := good_f z_tb c
    rw [z_kind s3] at s4
    exact absurd s4 (by decide)
theorem z_lv : lvT zT = [] := by
  cases e : lvT zT with
  | nil => rfl
  | cons a l =>
    have : a ∈ lvT zT := by rw [e]; exact List.mem_cons_self ..
    have := (lv_mem z_tb).1 this
    rw [z_gd] at this
    cases this
theorem FV_zero : FV zT := by
  refine ⟨fo_of z_tb fun x hx => ?_, fun x hx => ?_, fun x hx => ?_⟩
  · rw [z_gd] at hx; cases hx
  · rw [z_lv] at hx; cases hx
  · rw [z_gd] at hx; cases hx
section
variable {ts : Array Value} {h : Int}
theorem used_good (hb : TbOk ts) {x : Int} (hx : gdF ts x = true) : usedB (bkB ts) x := by
  obtain ⟨i, hi, hk, e⟩ := (goodB_iff hb.bk).1 hx
  exact ⟨i, ageAt (bkB ts) i, hi, (hb.bk.ra i hi).1, e, .inr ⟨rfl, by rw [hk]; decide⟩⟩
theorem rt_ch_eq {up up' : Int → Int} {x y : Int} (h : chL up' x = chL up y) : rtL up' x = rtL up y := by unfold rtL; rw [h]
theorem cut_f (hv : FV ts) (hg : gdF ts h = true) : FV (cutT ts h) ∧ bkB (cutT ts h) = bkB ts ∧ ∀ x ∈ UNL ts h, gdF (cutT ts h) x = true ∧ rtF (cutT ts h) x = h ∧ ∀ k, k < 8 → ceF (cutT ts h) x k = clC ts h (ceF ts x k) := by
  have hb := hv.f.ok
  obtain ⟨k1, k2, k3, k4, k5⟩ := cut_in hv.f hg
  have hl : h ∈ lvT ts := (lv_mem hb).2 hg
  have elv := lv_bk k2
  have hl' : h ∈ lvT (raS ts h 0) := by rw [elv]; exact hl
  have eT : cutT ts h = cuN ts h (raS ts h 0) (UNL (raS ts h 0) h) := if_pos hg
  obtain ⟨c1, c2, c3⟩ := cu_f (ts := ts) (h := h) (UNL (raS ts h 0) h) k1.ok (fun x hx => (lv_mem k1.ok).1 (un_sub k1.fo h hl' x hx).1)
  obtain ⟨r1, r2, r3, r4, r5⟩ := raS_f (u := 0) hb hg ⟨by decide, by decide⟩
  rw [eT]
  have ebk := c2.trans k2
  have hup : ∀ x ∈ lvT (raS ts h 0), upF (cuN ts h (raS ts h 0) (UNL (raS ts h 0) h)) x = upF (raS ts h 0) x := fun x hx => up_bk c2 (c3 x ((lv_mem k1.ok).1 hx)).1
  obtain ⟨f1, f2⟩ := fo_same k1.fo hup
  have elv2 : lvT (cuN ts h (raS ts h 0) (UNL (raS ts h 0) h)) = lvT (raS ts h 0) := lv_bk c2
  refine ⟨⟨⟨c1, by rw [elv2]; exact f1⟩, fun x hx => ?_, fun x hx => ?_⟩, ebk, fun x hx => ?_⟩
  · rw [elv2] at hx
    have e := f2 x (.inr hx)
    rw [elv] at hx
    have : depL (upF (cuN ts h (raS ts h 0) (UNL (raS ts h 0) h))) x = depL (upF (raS ts h 0)) x := by unfold depL; rw [e]
    rw [this]
    exact Nat.le_trans (k3 x hx) (hv.d x hx)
  · rw [gd_bk ebk] at hx
    rw [(c3 x (by rw [gd_bk k2]; exact hx)).1, ebk]
    by_cases e : x = h
    · rw [e, r3]; exact .inl rfl
    · rw [r4 x hx e]; exact hv.o x hx
  · obtain ⟨x1, x2⟩ := un_sub hv.f.fo h hl x hx
    have xg := (lv_mem hb).1 x1
    have x1' : x ∈ lvT (raS ts h 0) := by rw [elv]; exact x1
    have xg' : gdF (cuN ts h (raS ts h 0) (UNL (raS ts h 0) h)) x = true := by rw [gd_bk ebk]; exact xg
    refine ⟨xg', ?_, fun k hk => ?_⟩
    · unfold rtF
      rw [if_pos xg', rt_ch_eq (f2 x (.inr x1'))]
      exact k5 x (.inr x1) x2
    · have hm : x ∈ UNL (raS ts h 0) h := (un_mem k1.fo hl').2 ⟨x1', (k4 x (.inr x1)).2 x2⟩
      rw [(c3 x (by rw [gd_bk k2]; exact xg)).2.2 k hk, if_pos hm, (r5 x).2 k hk]
theorem FV_cut (hv : FV ts) (h : Int) : FV (cutT ts h) := by
  cases hg : gdF ts h with
  | true => exact (cut_f hv hg).1
  | false => unfold cutT; rw [hg]; exact hv
theorem graft_f (hv : FV ts) {u : Int} (hu : inH u) : FV (grT ts h u) ∧ (grE ts h u = 0 → rtF (grT ts h u) h = rtF ts u ∧ gdF ts h = true ∧ bkB (grT ts h u) = bkB ts) := by
  by_cases hE : grE ts h u = 0
  rotate_left
  · have e : grT ts h u = ts := by unfold grT; rw [if_neg hE]
    rw [e]
    exact ⟨hv, fun k => absurd k hE⟩
  have hb := hv.f.ok
  have eT : grT ts h u = raS ts h u := by unfold grT; rw [if_pos hE]
  unfold grE at hE
  split at hE
  · exact absurd hE (by decide)
  rename_i n1
  split at hE
  · exact absurd hE (by decide)
  rename_i n2
  split at hE
  rotate_left
  · exact absurd hE (by decide)
  rename_i h6
  rw [not_or] at n1 n2
  have hg : gdF ts h = true := by cases c : gdF ts h with | true => rfl | false => exact absurd c n1.1
  have hgu : gdF ts u = true := by cases c : gdF ts u with | true => rfl | false => exact absurd c n1.2
  have hr : rtF ts h = h := Decidable.not_not.1 n2.1
  have ho : outF ts h u ≠ true := n2.2
  have hl := (lv_mem hb).2 hg
  have hlu := (lv_mem hb).2 hgu
  obtain ⟨r1, r2, r3, r4, r5⟩ := raS_f (u := u) hb hg hu
  have er : rtF ts h = rtL (upF ts) h := if_pos hg
  have h0r : upF ts h = 0 := (rt_root hv.f.fo hl).1 (by rw [← er]; exact hr)
  have hnot : h ∉ chL (upF ts) u := fun k => ho (by unfold outF; rw [hgu, decide_eq_true k]; rfl)
  have h0 : upF (raS ts h u) h = u := by unfold upF; rw [gd_bk r2, gd_bk r2, r3, if_pos hg, if_pos hgu]
  have hsm : ∀ x ∈ lvT ts, x ≠ h → upF (raS ts h u) x = upF ts x := fun x hx hne => up_bk r2 (r4 x ((lv_mem hb).1 hx) hne)
  have hd6 : ∀ x ∈ lvT ts, h ∈ chL (upF ts) x → depL (upF ts) x + depL (upF ts) u ≤ 6 := fun x hx hc => by
    have := h6 x ((un_mem hv.f.fo hl).2 ⟨hx, hc⟩)
    unfold depF at this
    rw [if_pos ((lv_mem hb).1 hx), if_pos hgu] at this
    exact this
  obtain ⟨f1, f2, f3⟩ := graft_ch hv.f.fo hl h0r hlu hnot h0 hsm (fun x hx hc => by have := hd6 x hx hc; omega)
  have elv := lv_bk r2
  rw [eT]
  refine ⟨⟨⟨r1, by rw [elv]; exact f1⟩, fun x hx => ?_, fun x hx => ?_⟩, fun _ => ⟨?_, hg, r2⟩⟩
  · rw [elv] at hx
    unfold depL
    by_cases c : h ∈ chL (upF ts) x
    · rw [f3 x (.inr hx) c, List.length_append]
      exact hd6 x hx c
    · rw [f2 x (.inr hx) c]
      exact hv.d x hx
  · rw [gd_bk r2] at hx
    rw [r2]
    by_cases e : x = h
    · rw [e, r3]; exact .inr (used_good hb hgu)
    · rw [r4 x hx e]; exact hv.o x hx
  · unfold rtF
    rw [gd_bk r2, if_pos hg, if_pos hgu]
    exact graft_rt hv.f.fo f1 hl hlu hnot h0 hsm
theorem FV_drop (hv : FV ts) (hg : gdF ts h = true) : FV (drT ts h) := by
  have hb := hv.f.ok
  obtain ⟨r1, r2, r3, r4⟩ := drop_f hb hg
  have hm : ∀ x, x ∈ lvT (drT ts h) ↔ x ∈ lvT ts ∧ x ≠ h := fun x => by
    rw [lv_mem r1, lv_mem hb, r3, Bool.and_eq_true, Bool.not_eq_true', decide_eq_false_iff_not]
  have hup : ∀ x ∈ lvT (drT ts h), upF (drT ts h) x = if upF ts x = h then 0 else upF ts x := fun x hx => by
    obtain ⟨k1, k2⟩ := (hm x).1 hx
    exact drop_up hb hg ((lv_mem hb).1 k1) k2
  obtain ⟨f1, f2⟩ := fo_sub (L' := lvT (drT ts h)) (up' := upF (drT ts h)) hv.f.fo (issued_nodup r1.bk) (fun x hx => ((hm x).1 hx).1) (fun x hx => by
    rw [hup x hx]
    split
    · exact .inr rfl
    · exact .inl rfl) (fun x hx => by
    rw [hup x hx]
    split
    · exact .inl rfl
    · rename_i c
      rcases hv.f.fo.cl x ((hm x).1 hx).1 with k | k
      · exact .inl k
      · exact .inr ((hm _).2 ⟨k, c⟩))
  refine ⟨⟨r1, f1⟩, fun x hx => Nat.le_trans (f2 x hx) (hv.d x ((hm x).1 hx).1), fun x hx => ?_⟩
  have hx' := (lv_mem r1).2 hx
  obtain ⟨k1, k2⟩ := (hm x).1 hx'
  have kg := (lv_mem hb).1 k1
  rw [(r4 x kg k2).1, r2]
  exact (hv.o x kg).imp id used_void_of
where
  used_void_of {x : Int} : usedB (bkB ts) x → usedB (voidB (bkB ts) h) x := fun k => used_void hv.f.ok.bk k
theorem drN_f : ∀ (o : List Int) {ts : Array Value}, FV ts → o.Nodup → (∀ x ∈ o, gdF ts x = true) → FV (drN ts o) ∧ ∀ x, gdF (drN ts o) x = (gdF ts x && !decide (x ∈ o))
  | [], ts, hv, _, _ => ⟨hv, fun x => by simp [drN]⟩
  | y :: o, ts, hv, hn, hg => by
    have hgy := hg y (List.mem_cons_self ..)
    obtain ⟨n1, n2⟩ := List.nodup_cons.1 hn
    have e : dropT ts y = drT ts y := if_pos hgy
    obtain ⟨_, _, r3, _⟩ := drop_f hv.f.ok hgy
    have key := drN_f o (ts := drT ts y) (FV_drop hv hgy) n2 fun x hx => by
      rw [r3, hg x (List.mem_cons_of_mem _ hx), decide_eq_false (fun k => n1 (by rw [← k]; exact hx))]
      rfl
    show FV (drN (dropT ts y) o) ∧ ∀ x, gdF (drN (dropT ts y) o) x = _
    rw [e]
    refine ⟨key.1, fun x => ?_⟩
    rw [key.2, r3]
    by_cases c : x = y
    · simp [c]
    · by_cases d : x ∈ o
      · simp [c, d]
      · simp [c, d]
theorem fell_f (hv : FV ts) (hg : gdF ts h = true) : FV (fellT ts h) ∧ (lvT ts).length = (unT ts h).length + (lvT (fellT ts h)).length := by
  have hb := hv.f.ok
  have hl := (lv_mem hb).2 hg
  have eU : unT ts h = UNL ts h := if_pos hg
  have hn : (unT ts h).Nodup := by rw [eU]; exact un_nodup hv.f.fo h hl
  have hsub : ∀ x ∈ unT ts h, x ∈ lvT ts := fun x hx => by rw [eU] at hx; exact (un_sub hv.f.fo h hl x hx).1
  obtain ⟨k1, k2⟩ := drN_f (unT ts h) hv hn fun x hx => (lv_mem hb).1 (hsub x hx)
  have k1 : FV (fellT ts h) := k1
  refine ⟨k1, ?_⟩
  have hm : ∀ x, x ∈ lvT (fellT ts h) ↔ x ∈ lvT ts ∧ x ∉ unT ts h := fun x => by
    rw [lv_mem k1.f.ok, lv_mem hb]
    show gdF (drN ts (unT ts h)) x = true ↔ _
    rw [k2, Bool.and_eq_true, Bool.not_eq_true', decide_eq_false_iff_not]
  have hnd : (unT ts h ++ lvT (fellT ts h)).Nodup := by
    rw [List.nodup_append]
    refine ⟨hn, issued_nodup k1.f.ok.bk, fun a ha b hb' e => ?_⟩
    rw [e] at ha
    exact ((hm b).1 hb').2 ha
  rw [← List.length_append]
  refine Nat.le_antisymm (nodup_le (issued_nodup hb.bk) fun x hx => ?_) (nodup_le hnd fun x hx => ?_)
  · by_cases c : x ∈ unT ts h
    · exact List.mem_append_left _ c
    · exact List.mem_append_right _ ((hm x).2 ⟨hx, c⟩)
  · rcases List.mem_append.1 hx with c | c
    · exact hsub x c
    · exact ((hm x).1 c).1
theorem FV_new (hv : FV ts) {u q : Int} (hu : inH u) : FV (fnT ts u q) := by
  by_cases hE : fnE ts u q = 0
  rotate_left
  · have e : fnT ts u q = ts := by unfold fnT; rw [if_neg hE]
    rw [e]; exact hv
  have hb := hv.f.ok
  have eT : fnT ts u q = nwT ts u q := by unfold fnT; rw [if_pos hE]
  unfold fnE at hE
  split at hE
  · exact absurd hE (by decide)
  rename_i n1
  have hdep : depF ts u ≤ 5 := by
    rcases Nat.lt_or_ge (depF ts u) 6 with c | c
    · omega
    · exact absurd ⟨.inl hE, c⟩ n1
  unfold newE at hE
  split at hE
  · exact absurd hE (by decide)
  rename_i n2
  split at hE
  rotate_left
  · exact absurd hE (by decide)
  rename_i hq
  split at hE
  rotate_left
  · exact absurd hE (by decide)
  rename_i ho
  have hu2 : u = 0 ∨ u ∈ lvT ts := by
    by_cases c : u = 0
    · exact .inl c
    · refine .inr ((lv_mem hb).2 ?_)
      cases d : gdF ts u with
      | true => rfl
      | false => exact absurd ⟨c, d⟩ n2
  obtain ⟨r1, r2, r3, r4, r5⟩ := nw_f hb ho (u := u) (q := q) hu hq
  obtain ⟨i1, i2, _⟩ := iss_new hb ho
  have hdu : depL (upF ts) u ≤ 5 := by
    rcases hu2 with c | c
    · rw [c, dep_zero]; omega
    · have e : depF ts u = depL (upF ts) u := if_pos ((lv_mem hb).1 c)
      omega
  have hm : ∀ x, x ∈ lvT (nwT ts u q) ↔ x ∈ lvT ts ∨ x = issueI (bkB ts) := fun x => by
    rw [lv_mem r1, lv_mem hb, r3, Bool.or_eq_true, decide_eq_true_eq]
  have hc : issueI (bkB ts) ∉ lvT ts := fun k => by
    rw [lv_mem hb, i1] at k; cases k
  have h0 : upF (nwT ts u q) (issueI (bkB ts)) = u := by
    have g : gdF (nwT ts u q) (issueI (bkB ts)) = true := by rw [r3, decide_eq_true rfl, Bool.or_true]
    unfold upF
    rw [if_pos g, r4.1]
    rcases hu2 with c | c
    · rw [c]; split <;> rfl
    · rw [if_pos (by rw [r3, (lv_mem hb).1 c]; rfl)]
  have hsm : ∀ x ∈ lvT ts, upF (nwT ts u q) x = upF ts x := fun x hx => by
    have g := (lv_mem hb).1 hx
    have g' : gdF (nwT ts u q) x = true := by rw [r3, g]; rfl
    have hne : upR ts x ≠ issueI (bkB ts) := fun k => by
      rcases hv.o x g with c | c
      · exact i2 (k.symm.trans c)
      · rw [k] at c
        exact (used_new hb.bk ho).2 c
    unfold upF
    rw [if_pos g, if_pos g', (r5 x g).1, r3, decide_eq_false hne, Bool.or_false]
  obtain ⟨f1, f2, f3⟩ := new_ch hv.f.fo (issued_nodup r1.bk) hm hc i2 hu2 h0 hsm (by omega)
  rw [eT]
  refine ⟨⟨r1, f1⟩, fun x hx => ?_, fun x hx => ?_⟩
  · rcases (hm x).1 hx with k | k
    · unfold depL
      rw [f2 x (.inr k)]
      exact hv.d x k
    · rw [k, f3]; omega
  · rcases (hm x).1 ((lv_mem r1).2 hx) with k | k
    · have g := (lv_mem hb).1 k
      rw [(r5 x g).1, r2]
      exact (hv.o x g).imp id fun k => used_issue hb.bk k
    · rw [k, r4.1, r2]
      rcases hu2 with c | c
      · exact .inl c
      · exact .inr (used_issue hb.bk (used_good hb ((lv_mem hb).1 c)))
theorem FV_set (hv : FV ts) (hg : gdF ts h = true) {rr : Array Value} (hr : RgOk rr 0) : FV (setT ts h rr) := by
  have hb := hv.f.ok
  obtain ⟨r1, r2, r3, _⟩ := set_f hb hg hr
  have elv := lv_bk r2
  obtain ⟨f1, f2⟩ := fo_same (up' := upF (setT ts h rr)) hv.f.fo fun x hx => up_bk r2 (r3 x ((lv_mem hb).1 hx))
  refine ⟨⟨r1, by rw [elv]; exact f1⟩, fun x hx => ?_, fun x hx => ?_⟩
  · rw [elv] at hx
    unfold depL
    rw [f2 x (.inr hx)]
    exact hv.d x hx
  · rw [gd_bk r2] at hx
    rw [r3 x hx, r2]
    exact hv.o x hx
end
end Go.Proofs.YtklhlkdpidkijaaDoor
/- Of token: the closed test. No condition. -/
namespace Go.Proofs.YtklhlkdpidkijaaDoor
set_option maxRecDepth 1000000 in
theorem wakes_fast : (runC E0 200000 0 [callFr 5 Tryd.f5.ntmps [] (Tryd.f5.body.getD .skip)] ⟨0, .nil, []⟩).allTrue = true := by kernel_rfl
theorem wakes_true : (run E0 200000 0 [callFr 5 Tryd.f5.ntmps [] (Tryd.f5.body.getD .skip)] ⟨0, .nil, []⟩).allTrue = true := by
  rw [← runC_eq]
  exact wakes_fast
theorem wakes_fn : E0.fn 5 = some Tryd.f5 := by kernel_rfl
theorem wakes_body : Tryd.f5.body = some (Tryd.f5.body.getD .skip) := by kernel_rfl
theorem wakes_con (m : SMem) : Con E0 5 [] m (needs [] (.ret (sB (.l true)) m)) :=
  Con.pure E0_ok wakes_fn wakes_body (by kernel_rfl) (by kernel_rfl) fun _ => good_true E0_ok wakes_true
end Go.Proofs.YtklhlkdpidkijaaDoor
/- Of forests: ForestWhole: its runs end with true. No condition. -/
namespace Go.Proofs.YtklhlkdpidkijaaDoor
set_option maxRecDepth 100000
set_option linter.unusedSimpArgs false
set_option linter.unusedVariables false
theorem conT6_ok : ∀ g l m t, conT6 g l m = some t → Con E0 g l m t := by
  intro g l m t h
  unfold conT6 at h
  split at h
  · cases h; exact wakes_con m
  · rename_i ts; cases h
    refine Con.asked fun hq => ?_
    intro A hs
    exact whole_con m A ⟨fun p hp => hq p hp, hs⟩
  · rename_i ts x; cases h
    refine Con.args (l' := [tbS ts, u32 x.den]) (fun R vs ha => by
      match vs, ha with
      | [v, w], ha => exact ⟨ha.1, ha.2.1, trivial⟩) ?_
    exact fell_con x.den m
  · rename_i ts u q; cases h
    refine Con.asked fun hq => Con.args (l' := [tbS ts, u32 u.den, i64 (.o q.den)]) (fun R vs ha => by
      match vs, ha with
      | [v, w, z], ha => exact ⟨ha.1, ha.2.1, ha.2.2.1, trivial⟩) ?_
    intro A hs
    exact fnew_con u.den q.den m A ⟨fun p hp => hq p hp, hs⟩
  · exact conT5_ok _ _ _ _ h
theorem EL_ok : EnvOk EL := EnvOk.with E0_ok _ _ conT6_ok
theorem EL0_ok : EnvOk EL0 := EnvOk.with E0_ok _ _ conT6_ok
theorem EW_ok : EnvOk EW := EnvOk.with E0_ok _ _ conT6_ok
theorem pNS_good {off n r : Nat} {cs ks : Array Value} {ty : TypeId} {A : SV → SMem → Prop} {QN QS : Int → Array Value → Int → Array Value → Int → Int → Int → Int → Int → Prop} {fs : List SFr} {m : SMem} (hN : ∀ i ts h was d a b c q, QN i ts h was d a b c q → Good Tryd.prog A 1 (pN_F off n cs ty i ts h was d a b c q) (pN_M off n cs ty i ts h was d a b c q)) (hS : ∀ i ts h was d a b c q, QS i ts h was d a b c q → Good Tryd.prog A 1 (pS_F off n cs ty r ks i ts h was d a b c q) (pS_M off n cs ty r ks i ts h was d a b c q)) (hb : pNS off n cs ty r ks QN QS fs m) : Good Tryd.prog A 1 fs m := by
  unfold pNS at hb
  split at hb
  · split at hb
    · exact pS_good hS hb
    · exact pN_good hN hb
  · exact hb.elim
def ActOk (cs : Array Value) (p : Nat) : Prop := IsInt .u8 cs p ∧ IsInt .u32 cs (p + 1) ∧ IsInt .u32 cs (p + 2) ∧ IsInt .u32 cs (p + 3) ∧ IsInt .i64 cs (p + 4) ∧ (0 ≤ intAt cs p ∧ intAt cs p ≤ 255) ∧ inH (intAt cs (p + 1)) ∧ inH (intAt cs (p + 2)) ∧ inH (intAt cs (p + 3))
def ActsOk (cs : Array Value) (off n : Nat) : Prop := ∀ i, i < n → ActOk cs (off + i * 5)
noncomputable def lsR (rr : Array Value) : Array Value := lsA (intAt rr 0) (intAt rr 1) (intAt rr 3) (intAt rr 4) (intAt rr 5) (intAt rr 6) (intAt rr 7) (intAt rr 8) (intAt rr 9) (intAt rr 10) (intAt rr 11)
theorem lsR_f (rr : Array Value) : lsA (intAt rr 0) (intAt rr 1) (intAt rr 3) (intAt rr 4) (intAt rr 5) (intAt rr 6) (intAt rr 7) (intAt rr 8) (intAt rr 9) (intAt rr 10) (intAt rr 11) = lsR rr := rfl
section
variable {ts : Array Value} {h : Int}
theorem up_in (hb : TbOk ts) (hg : gdF ts h = true) : inH (upF ts h) := by
  unfold upF
  rw [if_pos hg]
  split
  · exact (rg_in hb hg).1
  · exact ⟨by decide, by decide⟩
theorem ls_ok (hb : TbOk ts) (hg : gdF ts h = true) {c : Int} (hc : inH c) {k : Nat} (hk : k < 8) : RgOk (lsR ((getA ts h).setIfInBounds (4 + k) (.int .u32 c))) 0 ∧ (IsInt .u32 ((getA ts h).setIfInBounds (4 + k) (.int .u32 c)) 0 ∧ IsInt .i64 ((getA ts h).setIfInBounds (4 + k) (.int .u32 c)) 1 ∧ ((getA ts h).setIfInBounds (4 + k) (.int .u32 c))[2]? = some (.slice none 0 0) ∧ IsInt .i64 ((getA ts h).setIfInBounds (4 + k) (.int .u32 c)) 3 ∧ ∀ j, j < 8 → IsInt .u32 ((getA ts h).setIfInBounds (4 + k) (.int .u32 c)) (4 + j)) ∧ intAt ((getA ts h).setIfInBounds (4 + k) (.int .u32 c)) 1 = quF ts h ∧ ∀ j, j < 8 → intAt ((getA ts h).setIfInBounds (4 + k) (.int .u32 c)) (4 + j) = if j = k then c else ceF ts h j := by
  obtain ⟨i1, i2, i3⟩ := rg_in hb hg
  have ga : getA ts h = rgA (upF ts h) (quF ts h) 0 (ceF ts h) := by unfold getA; rw [if_pos hg]
  rw [ga]
  generalize hrr : (rgA (upF ts h) (quF ts h) 0 (ceF ts h)).setIfInBounds (4 + k) (.int .u32 c) = rr
  have q : ∀ j, j < 4 → rr[j]? = (rgA (upF ts h) (quF ts h) 0 (ceF ts h))[j]? := fun j hj => by rw [← hrr, set_out (by omega)]
  have r0 : rr[0]? = some (.int .u32 (upF ts h)) := q 0 (by decide)
  have r1 : rr[1]? = some (.int .i64 (quF ts h)) := q 1 (by decide)
  have r2 : rr[2]? = some (.slice none 0 0) := q 2 (by decide)
  have r3 : rr[3]? = some (.int .i64 0) := q 3 (by decide)
  have rc : ∀ j, j < 8 → rr[4 + j]? = some (.int .u32 (if j = k then c else ceF ts h j)) := fun j hj => by
    rw [← hrr]
    by_cases e : j = k
    · rw [if_pos e, e, set_in (show 4 + k < 12 by omega)]
    · rw [if_neg e, set_out (by omega)]
      match j, hj with
      | 0, _ | 1, _ | 2, _ | 3, _ | 4, _ | 5, _ | 6, _ | 7, _ => rfl
  have hin : ∀ j, j < 8 → inH (if j = k then c else ceF ts h j) := fun j hj => by
    split
    · exact hc
    · exact i3 j hj
  refine ⟨?_, ⟨isI_of r0, isI_of r1, r2, isI_of r3, fun j hj => isI_of (rc j hj)⟩, intAt_of r1, fun j hj => intAt_of (rc j hj)⟩
  have e : lsR rr = rgA (upF ts h) (quF ts h) 0 (fun j => if j = k then c else ceF ts h j) := by
    unfold lsR
    rw [intAt_of r0, intAt_of r1, intAt_of r3, intAt_of (rc 0 (by decide)), intAt_of (rc 1 (by decide)), intAt_of (rc 2 (by decide)), intAt_of (rc 3 (by decide)), intAt_of (rc 4 (by decide)), intAt_of (rc 5 (by decide)), intAt_of (rc 6 (by decide)), intAt_of (rc 7 (by decide))]
    rfl
  rw [e]
  exact (rg_new (us := rgA (upF ts h) (quF ts h) 0 (fun j => if j = k then c else ceF ts h j)) (p := 0) (fun j _ => by rw [Nat.zero_add]) (up_in hb hg) i2 hin).1
theorem rem8 {b : Int} (hb : inH b) : ari .rem .u32 b 8 = b % 8 := by
  have h0 : 0 ≤ b := hb.1
  rw [ari_rem, Int.tmod_eq_emod_of_nonneg h0]
variable {cs : Array Value} {off n : Nat} {ty : TypeId}
theorem pE_ok {i : Nat} (hi : i < 100) (hv : FV ts) (hL : ∀ us, FV us → Good Tryd.prog (isB true) 1 (pL_F off n cs ty ((i + 1 : Nat) : Int) us) (pL_M off n cs ty ((i + 1 : Nat) : Int) us)) : Good Tryd.prog (isB true) 1 (pE_F off n cs ty (i : Int) ts) (pE_M off n cs ty (i : Int) ts) := by
  refine past_vc EL_ok 1000 (vEF off n cs ty (i : Int) ts (fun i' us => i' = ((i + 1 : Nat) : Int) ∧ us = ts)) ?_ (fun _ _ h => h) (fun fs m hb => vE_go (fun i' us ⟨e1, e2⟩ => by rw [e1, e2]; exact hL ts hv) hb)
  have ei : ari .add .i64 (i : Int) 1 = ((i + 1 : Nat) : Int) := by rw [ari_add, i64_in' (by omega) (by omega)]; omega
  have hs := hv.f.ok.sz
  have hf := hv.f
  have h6 := hv.d
  simp only [ei, hs, hf, h6, and_true, true_and, pL_d0_ok]
theorem pN_ok {i : Nat} (hi : i < 100) (hv : FV ts) (hh : inH h) {d a b c q : Int} (hbi : inH b) (hci : inH c) (hg : gdF ts h = false)
    (hE : ∀ us, FV us → Good Tryd.prog (isB true) 1 (pE_F off n cs ty (i : Int) us) (pE_M off n cs ty (i : Int) us)) : Good Tryd.prog (isB true) 1 (pN_F off n cs ty (i : Int) ts h ts d a b c q) (pN_M off n cs ty (i : Int) ts h ts d a b c q) := by
  have hb := hv.f.ok
  have hf := hv.f
  have hs := hb.sz
  have hh' : 0 ≤ h ∧ h < 4294967296 := hh
  have hb' : 0 ≤ b ∧ b < 4294967296 := hbi
  have h64 : (64 : Nat) ≤ 448 := by decide
  have hbk : BkOk (bkB ts) := hb.bk
  have hg' : goodB (bkB ts) h = false := hg
  refine past_vc EL0_ok 1000 (vNF off n cs ty (i : Int) ts h ts d a b c q (fun i' us => i' = (i : Int) ∧ FV us)) ?_ (fun _ _ h => h) (fun fs m hb => vN_go (fun i' us ⟨e1, e2⟩ => by rw [e1]; exact hE us e2) hb)
  cases d0 : (d == 0) with
  | true =>
    have eU : unT ts h = [] := by unfold unT; rw [hg]; rfl
    have d2 : decide ((unT ts h).length = 0) = true := by rw [eU]; rfl
    have d6 : ((4 : Int) == 0) = false := rfl
    have hle := lv_len ts
    have e3 : ari .sub .i64 ((lvT ts).length : Int) 0 = ((lvT ts).length : Int) := by rw [ari_sub, i64_in' (by omega) (by omega)]; omega
    have d4 : (((lvT ts).length : Int) != ((lvT ts).length : Int)) = false := bne_self_eq_false _
    cases d5 : decide ((lvT ts).length = 0) with
    | true =>
      simp only [bk_f, hg', d0, d2, d4, d5, d6, e3, hv, hs, hb, hf, hh', hbk, h64, beqT, beqF, Bool.not_true, Bool.not_false, true_implies, Bool.true_eq_false, Bool.false_eq_true, false_implies, and_true, true_and, pE_d0_ok]
    | false =>
      simp only [bk_f, hg', d0, d2, d4, d5, d6, e3, hv, hs, hb, hf, hh', hbk, h64, beqT, beqF, Bool.not_true, Bool.not_false, true_implies, Bool.true_eq_false, Bool.false_eq_true, false_implies, and_true, true_and, pE_d0_ok]
  | false =>
    cases d1 : (d == 1) with
    | true =>
      have hc1 := FV_cut hv h
      have hs2 := hc1.f.ok.sz
      simp only [d0, d1, hc1, hs, hs2, hf, hh', true_implies, Bool.true_eq_false, Bool.false_eq_true, false_implies, and_true, true_and, pE_d0_ok]
    | false =>
      cases d2 : (d == 2) with
      | true =>
        obtain ⟨g1, g2⟩ := graft_f (h := h) hv hbi
        have hs2 := g1.f.ok.sz
        have hf2 := g1.f
        cases d3 : (grE ts h b == 0) with
        | true =>
          have d4 : (rtF (grT ts h b) h != rtF ts b) = false := by rw [(g2 (beq_iff_eq.1 d3)).1]; exact bne_self_eq_false _
          simp only [d0, d1, d2, d3, d4, g1, hs, hs2, hf, hf2, hh', hb', beqT, true_implies, Bool.true_eq_false, Bool.false_eq_true, false_implies, and_true, true_and, pE_d0_ok]
        | false =>
          simp only [d0, d1, d2, d3, g1, hs, hs2, hf, hf2, hh', hb', beqT, true_implies, Bool.true_eq_false, Bool.false_eq_true, false_implies, and_true, true_and, pE_d0_ok]
      | false =>
        cases d3 : (d == 3) with
        | true =>
          have g12 := (getA_facts ts h).1
          have em := rem8 hbi
          have hm0 : 0 ≤ b % 8 := by omega
          have hm1 : b % 8 < 8 := by omega
          have hmk : (b % 8).toNat < 8 := by omega
          have hm2 : 4 + (b % 8).toNat < 12 := by omega
          have e5 : getX5 ts h = 4 := by unfold getX5; rw [hg]; rfl
          have d4 : ((4 : Int) == 0) = false := rfl
          simp only [Nat.mul_one, d0, d1, d2, d3, d4, e5, em, g12, hm0, hm1, hm2, hv, hs, hb, hh', decide_true, true_implies, Bool.true_eq_false, Bool.false_eq_true, false_implies, and_true, true_and, pE_d0_ok]
        | false =>
          have hN := FV_new (q := q) hv hh
          have hs2 := hN.f.ok.sz
          simp only [d0, d1, d2, d3, hN, hs, hs2, hf, hh', true_implies, Bool.true_eq_false, Bool.false_eq_true, false_implies, and_true, true_and, pE_d0_ok]
theorem pS_ok {i : Nat} (hi : i < 100) (hv : FV ts) (hh : inH h) {d a b c q : Int} (hbi : inH b) (hci : inH c) (hg : gdF ts h = true)
    (hE : ∀ us, FV us → Good Tryd.prog (isB true) 1 (pE_F off n cs ty (i : Int) us) (pE_M off n cs ty (i : Int) us)) (hC : Good Tryd.prog (isB true) 1 (pC_F off n cs ty (unT ts h).length (u32s (unT ts h)) (i : Int) (cutT ts h) h ts ((0 : Nat) : Int)) (pC_M off n cs ty (unT ts h).length (u32s (unT ts h)) (i : Int) (cutT ts h) h ts ((0 : Nat) : Int))) : Good Tryd.prog (isB true) 1 (pS_F off n cs ty (unT ts h).length (u32s (unT ts h)) (i : Int) ts h ts d a b c q) (pS_M off n cs ty (unT ts h).length (u32s (unT ts h)) (i : Int) ts h ts d a b c q) := by
  have hb := hv.f.ok
  have hf := hv.f
  have hs := hb.sz
  have hh' : 0 ≤ h ∧ h < 4294967296 := hh
  have hb' : 0 ≤ b ∧ b < 4294967296 := hbi
  have h64 : (64 : Nat) ≤ 448 := by decide
  have hbk : BkOk (bkB ts) := hb.bk
  have hg' : goodB (bkB ts) h = true := hg
  refine past_vc EL_ok 1000 (vSF off n cs ty (unT ts h).length (u32s (unT ts h)) (i : Int) ts h ts d a b c q (fun i' us h' w k => i' = (i : Int) ∧ us = cutT ts h ∧ h' = h ∧ w = ts ∧ k = ((0 : Nat) : Int)) (fun i' us => i' = (i : Int) ∧ FV us)) ?_ (fun _ _ h => h) (fun fs m hb => vS_go (fun i' us h' w k ⟨e1, e2, e3, e4, e5⟩ => by rw [e1, e2, e3, e4, e5]; exact hC) (fun i' us ⟨e1, e2⟩ => by rw [e1]; exact hE us e2) hb)
  cases d0 : (d == 0) with
  | true =>
    obtain ⟨f1, f2⟩ := fell_f hv hg
    have hs2 := f1.f.ok.sz
    have hb2 := f1.f.ok
    have hl : h ∈ lvT ts := (lv_mem hb).2 hg
    have hne : (lvT ts).length ≠ 0 := by have := List.length_pos_of_mem hl; omega
    have hle := lv_len ts
    have d1 : decide ((lvT ts).length = 0) = false := decide_eq_false hne
    have d2 : decide ((unT ts h).length = 0) = false := by
      have eU : unT ts h = UNL ts h := if_pos hg
      rw [eU, unl_cons hf hl]; rfl
    have d3 : (((unT ts h).length : Int) != ((unT ts h).length : Int)) = false := bne_self_eq_false _
    have e3 : ari .sub .i64 ((lvT ts).length : Int) ((unT ts h).length : Int) = ((lvT (fellT ts h)).length : Int) := by rw [ari_sub, i64_in' (by omega) (by omega)]; omega
    have d4 : (((lvT (fellT ts h)).length : Int) != ((lvT (fellT ts h)).length : Int)) = false := bne_self_eq_false _
    have d6 : ((0 : Int) == 0) = true := rfl
    cases d5 : decide ((lvT (fellT ts h)).length = 0) with
    | true =>
      have d7 : ((0 : Int) != ((lvT (fellT ts h)).length : Int)) = false := by rw [of_decide_eq_true d5]; rfl
      simp only [bk_f, hg', d0, d1, d2, d3, d4, d5, d6, d7, e3, f1, hs, hs2, hb, hb2, hf, hh', hbk, h64, beqT, beqF, Bool.not_true, Bool.not_false, true_implies, Bool.true_eq_false, Bool.false_eq_true, false_implies, and_true, true_and, pE_d0_ok, pC_d0_ok]
    | false =>
      simp only [bk_f, hg', d0, d1, d2, d3, d4, d5, d6, e3, f1, hs, hs2, hb, hb2, hf, hh', hbk, h64, beqT, beqF, Bool.not_true, Bool.not_false, true_implies, Bool.true_eq_false, Bool.false_eq_true, false_implies, and_true, true_and, pE_d0_ok, pC_d0_ok]
  | false =>
    cases d1 : (d == 1) with
    | true =>
      have hc1 := FV_cut hv h
      have hs2 := hc1.f.ok.sz
      simp only [d0, d1, hc1, hs, hs2, hf, hh', true_implies, Bool.true_eq_false, Bool.false_eq_true, false_implies, and_true, true_and, pE_d0_ok, pC_d0_ok]
      rfl
    | false =>
      cases d2 : (d == 2) with
      | true =>
        obtain ⟨g1, g2⟩ := graft_f (h := h) hv hbi
        have hs2 := g1.f.ok.sz
        have hf2 := g1.f
        cases d3 : (grE ts h b == 0) with
        | true =>
          have d4 : (rtF (grT ts h b) h != rtF ts b) = false := by rw [(g2 (beq_iff_eq.1 d3)).1]; exact bne_self_eq_false _
          simp only [d0, d1, d2, d3, d4, g1, hs, hs2, hf, hf2, hh', hb', beqT, true_implies, Bool.true_eq_false, Bool.false_eq_true, false_implies, and_true, true_and, pE_d0_ok]
        | false =>
          simp only [d0, d1, d2, d3, g1, hs, hs2, hf, hf2, hh', hb', beqT, true_implies, Bool.true_eq_false, Bool.false_eq_true, false_implies, and_true, true_and, pE_d0_ok]
      | false =>
        cases d3 : (d == 3) with
        | true =>
          have g12 := (getA_facts ts h).1
          have em := rem8 hbi
          have hm0 : 0 ≤ b % 8 := by omega
          have hm1 : b % 8 < 8 := by omega
          have hmk : (b % 8).toNat < 8 := by omega
          have hm2 : 4 + (b % 8).toNat < 12 := by omega
          have e5 : getX5 ts h = 0 := by unfold getX5; rw [if_pos hg]
          have d4 : ((0 : Int) == 0) = true := rfl
          obtain ⟨l1, ⟨l2, l3, l4, l5, l6⟩, _⟩ := ls_ok hb hg hci hmk
          have hS := FV_set hv hg l1
          have hs2 := hS.f.ok.sz
          have m0 := l6 0 (by decide)
          have m1 := l6 1 (by decide)
          have m2 := l6 2 (by decide)
          have m3 := l6 3 (by decide)
          have m4 := l6 4 (by decide)
          have m5 := l6 5 (by decide)
          have m6 := l6 6 (by decide)
          have m7 := l6 7 (by decide)
          simp only [Nat.mul_one, d0, d1, d2, d3, d4, e5, em, g12, hm0, hm1, hm2]
          generalize (getA ts h).setIfInBounds (4 + (b % 8).toNat) (.int .u32 c) = rr at *
          simp only [lsR_f, l1, l2, l3, l4, l5, m0, m1, m2, m3, m4, m5, m6, m7, hS, hs, hs2, hb, hh', decide_true, true_implies, Bool.true_eq_false, Bool.false_eq_true, false_implies, and_true, true_and, pE_d0_ok]
        | false =>
          have hN := FV_new (q := q) hv hh
          have hs2 := hN.f.ok.sz
          simp only [d0, d1, d2, d3, hN, hs, hs2, hf, hh', true_implies, Bool.true_eq_false, Bool.false_eq_true, false_implies, and_true, true_and, pE_d0_ok]
theorem pD_ok {i : Nat} (hv : FV ts) (hg : gdF ts h = true) {x : Int} (hx : x ∈ UNL ts h) {k : Nat} (hk : k < (unT ts h).length)
    (hC : Good Tryd.prog (isB true) 1 (pC_F off n cs ty (unT ts h).length (u32s (unT ts h)) (i : Int) (cutT ts h) h ts ((k + 1 : Nat) : Int)) (pC_M off n cs ty (unT ts h).length (u32s (unT ts h)) (i : Int) (cutT ts h) h ts ((k + 1 : Nat) : Int))) : ∀ (w e : Nat), e + w = 8 → Good Tryd.prog (isB true) 1 (pD_F off n cs ty (unT ts h).length (u32s (unT ts h)) (i : Int) (cutT ts h) h ts (k : Int) (getA (cutT ts h) x) (e : Int)) (pD_M off n cs ty (unT ts h).length (u32s (unT ts h)) (i : Int) (cutT ts h) h ts (k : Int) (getA (cutT ts h) x) (e : Int)) := by
  have hb := hv.f.ok
  have hf := hv.f
  have hs := hb.sz
  have hl := (lv_mem hb).2 hg
  have hh' : 0 ≤ h ∧ h < 4294967296 := lv_in hb (.inr hl)
  obtain ⟨c1, c2, c3⟩ := cut_f hv hg
  obtain ⟨x1, x2, x3⟩ := c3 x hx
  have hxg : gdF ts x = true := (lv_mem hb).1 (un_sub hf.fo h hl x hx).1
  have ga : getA (cutT ts h) x = rgA (upF (cutT ts h) x) (quF (cutT ts h) x) 0 (ceF (cutT ts h) x) := by unfold getA; rw [if_pos x1]
  have cc : ∀ j, j < 8 → (getA (cutT ts h) x)[4 + j]? = some (.int .u32 (clC ts h (ceF ts x j))) := fun j hj => by
    rw [← x3 j hj, ga]
    match j, hj with
    | 0, _ | 1, _ | 2, _ | 3, _ | 4, _ | 5, _ | 6, _ | 7, _ => rfl
  have hk32 : (unT ts h).length ≤ 32 := by
    have eU : unT ts h = UNL ts h := if_pos hg
    rw [eU]; exact un_32 hf hl
  intro w
  induction w with
  | zero =>
    intro e he
    obtain rfl : e = 8 := by omega
    refine past_vc EL_ok 1000 (vDF off n cs ty _ _ (i : Int) _ h ts (k : Int) _ _ (fun _ _ _ _ _ _ _ => False) (fun i' us h' w k' => i' = (i : Int) ∧ us = cutT ts h ∧ h' = h ∧ w = ts ∧ k' = ((k + 1 : Nat) : Int))) ?_ (fun _ _ h => h) (fun fs m hb => vD_go (fun _ _ _ _ _ _ _ h => h.elim) (fun i' us h' w k' ⟨e1, e2, e3, e4, e5⟩ => by rw [e1, e2, e3, e4, e5]; exact hC) hb)
    have d : decide (((8 : Nat) : Int) < 8) = false := decide_eq_false (by omega)
    have ei : ari .add .i64 (k : Int) 1 = ((k + 1 : Nat) : Int) := by rw [ari_add, i64_in' (by omega) (by omega)]; omega
    simp only [d, ei, true_implies, Bool.true_eq_false, Bool.false_eq_true, false_implies, and_true, true_and, pC_d0_ok]
  | succ w ih =>
    intro e he
    have he' : e < 8 := by omega
    refine past_vc EL_ok 1000 (vDF off n cs ty _ _ (i : Int) _ h ts (k : Int) _ (e : Int) (fun i' us h' w k' rr e' => i' = (i : Int) ∧ us = cutT ts h ∧ h' = h ∧ w = ts ∧ k' = (k : Int) ∧ rr = getA (cutT ts h) x ∧ e' = ((e + 1 : Nat) : Int)) (fun _ _ _ _ _ => False)) ?_ (fun _ _ h => h) (fun fs m hb => vD_go (fun i' us h' w k' rr e' ⟨e1, e2, e3, e4, e5, e6, e7⟩ => by rw [e1, e2, e3, e4, e5, e6, e7]; exact ih (e + 1) (by omega)) (fun _ _ _ _ _ h => h.elim) hb)
    have d : decide ((e : Int) < 8) = true := decide_eq_true (by omega)
    have ei : ari .add .i64 (e : Int) 1 = ((e + 1 : Nat) : Int) := by rw [ari_add, i64_in' (by omega) (by omega)]; omega
    have g1 : IsInt .u32 (getA (cutT ts h) x) (4 + e) := isI_of (cc e he')
    have g2 : intAt (getA (cutT ts h) x) (4 + e) = clC ts h (ceF ts x e) := intAt_of (cc e he')
    have y0 : 0 ≤ (e : Int) := by omega
    have y1 : (e : Int) < 8 := by omega
    cases c : (clC ts h (ceF ts x e) != h) with
    | false => simp only [Int.toNat_natCast, Nat.mul_one, d, ei, g1, g2, y0, y1, c, hs, hf, hh', beqT, decide_true, true_implies, Bool.true_eq_false, Bool.false_eq_true, false_implies, and_true, true_and, pD_d0_ok]
    | true =>
      have ho : outF ts (clC ts h (ceF ts x e)) h = false := by
        have c' : clC ts h (ceF ts x e) ≠ h := bne_iff_ne.1 c
        unfold clC at c' ⊢
        split
        · unfold outF
          rw [hg, Bool.true_and]
          exact decide_eq_false fun k => hf.fo.nz 0 (ch_sub hf.fo h (.inr hl) 0 k) rfl
        · rename_i k
          rw [if_neg k] at c'
          cases z : outF ts (ceF ts x e) h with
          | false => rfl
          | true => exact absurd ⟨c', z⟩ k
      simp only [Int.toNat_natCast, Nat.mul_one, d, ei, g1, g2, y0, y1, c, ho, hs, hf, hh', beqT, decide_true, true_implies, Bool.true_eq_false, Bool.false_eq_true, false_implies, and_true, true_and, pD_d0_ok]
theorem pC_ok {i : Nat} (hv : FV ts) (hg : gdF ts h = true) (hE : Good Tryd.prog (isB true) 1 (pE_F off n cs ty (i : Int) (cutT ts h)) (pE_M off n cs ty (i : Int) (cutT ts h))) : ∀ (w k : Nat), k + w = (unT ts h).length → Good Tryd.prog (isB true) 1 (pC_F off n cs ty (unT ts h).length (u32s (unT ts h)) (i : Int) (cutT ts h) h ts (k : Int)) (pC_M off n cs ty (unT ts h).length (u32s (unT ts h)) (i : Int) (cutT ts h) h ts (k : Int)) := by
  have hb := hv.f.ok
  have hl := (lv_mem hb).2 hg
  obtain ⟨c1, c2, c3⟩ := cut_f hv hg
  have hb2 := c1.f.ok
  have hf2 := c1.f
  have hs2 := hb2.sz
  have eU : unT ts h = UNL ts h := if_pos hg
  intro w
  induction w with
  | zero =>
    intro k hk
    obtain rfl : k = (unT ts h).length := by omega
    refine past_vc EL_ok 1000 (vCF off n cs ty _ _ (i : Int) _ h ts _ (fun _ _ _ _ _ => False) (fun _ _ _ _ _ _ _ => False) (fun i' us => i' = (i : Int) ∧ us = cutT ts h)) ?_ (fun _ _ h => h) (fun fs m hb => vC_go (fun _ _ _ _ _ h => h.elim) (fun _ _ _ _ _ _ _ h => h.elim) (fun i' us ⟨e1, e2⟩ => by rw [e1, e2]; exact hE) hb)
    have d : decide (((unT ts h).length : Int) < ((unT ts h).length : Int)) = false := decide_eq_false (by omega)
    simp only [d, true_implies, Bool.true_eq_false, Bool.false_eq_true, false_implies, and_true, true_and, pE_d0_ok]
  | succ w ih =>
    intro k hk
    have hk' : k < (unT ts h).length := by omega
    have hm : (unT ts h).getD k 0 ∈ UNL ts h := by rw [← eU, List.getD_eq_getElem?_getD, List.getElem?_eq_getElem hk']; exact List.getElem_mem _
    refine past_vc EL_ok 1000 (vCF off n cs ty _ _ (i : Int) _ h ts (k : Int) (fun _ _ _ _ _ => False) (fun i' us h' w k' rr e' => i' = (i : Int) ∧ us = cutT ts h ∧ h' = h ∧ w = ts ∧ k' = (k : Int) ∧ rr = getA (cutT ts h) ((unT ts h).getD k 0) ∧ e' = ((0 : Nat) : Int)) (fun _ _ => False)) ?_ (fun _ _ h => h) (fun fs m hb => vC_go (fun _ _ _ _ _ h => h.elim) (fun i' us h' w k' rr e' ⟨e1, e2, e3, e4, e5, e6, e7⟩ => by rw [e1, e2, e3, e4, e5, e6, e7]; exact pD_ok hv hg hm hk' (ih (k + 1) (by omega)) 8 0 (by omega)) (fun _ _ h => h.elim) hb)
    have d : decide ((k : Int) < ((unT ts h).length : Int)) = true := decide_eq_true (by omega)
    have g1 : IsInt .u32 (u32s (unT ts h)) k := isI_of (u32s_at hk')
    have g2 : intAt (u32s (unT ts h)) k = (unT ts h).getD k 0 := intAt_of (u32s_at hk')
    obtain ⟨x1, x2, x3⟩ := c3 _ hm
    have hx : 0 ≤ (unT ts h).getD k 0 ∧ (unT ts h).getD k 0 < 4294967296 := lv_in hb2 (.inr ((lv_mem hb2).2 x1))
    have y0 : 0 ≤ (k : Int) := by omega
    have y1 : (k : Int) < ((unT ts h).length : Int) := by omega
    have g12 := (getA_facts (cutT ts h) ((unT ts h).getD k 0)).1
    have e5 : getX5 (cutT ts h) ((unT ts h).getD k 0) = 0 := by unfold getX5; rw [if_pos x1]
    have d5 : ((0 : Int) != 0) = false := rfl
    have d6 : (h != h) = false := bne_self_eq_false h
    simp only [Int.toNat_natCast, Nat.mul_one, Nat.zero_add, d, g1, g2, hx, y0, y1, g12, e5, d5, d6, x2, hb2, hf2, hs2, beqF, Bool.not_true, Bool.not_false, decide_true, true_implies, Bool.true_eq_false, Bool.false_eq_true, false_implies, and_true, true_and, pD_d0_ok]
    rfl
theorem rounds (ha : ActsOk cs off n) (hn : n ≤ 100) : ∀ (m i : Nat) (ts : Array Value), i + m = n → FV ts → Good Tryd.prog (isB true) 1 (pL_F off n cs ty (i : Int) ts) (pL_M off n cs ty (i : Int) ts) := by
  intro m
  induction m with
  | zero =>
    intro i ts hi hv
    obtain rfl : i = n := by omega
    refine past_vc EL_ok 1000 (vLF off i cs ty (i : Int) ts 0 #[] (fun _ _ _ _ _ _ _ _ _ => False) (fun _ _ _ _ _ _ _ _ _ => False)) ?_ (fun _ _ h => h) (fun fs m hb => pNS_good (fun _ _ _ _ _ _ _ _ _ h => h.elim) (fun _ _ _ _ _ _ _ _ _ h => h.elim) hb)
    have d : decide ((i : Int) < (i : Int)) = false := decide_eq_false (by omega)
    simp only [d, true_implies, Bool.true_eq_false, Bool.false_eq_true, false_implies, and_true, true_and]
  | succ m ih =>
    intro i ts hi hv
    have hb := hv.f.ok
    have hf := hv.f
    have hs := hb.sz
    have hi' : i < n := by omega
    obtain ⟨a0, a1, a2, a3, a4, b0, b1, b2, b3⟩ := ha i hi'
    have b1' : 0 ≤ intAt cs (off + i * 5 + 1) ∧ intAt cs (off + i * 5 + 1) < 4294967296 := b1
    have next : ∀ us, FV us → Good Tryd.prog (isB true) 1 (pL_F off n cs ty ((i + 1 : Nat) : Int) us) (pL_M off n cs ty ((i + 1 : Nat) : Int) us) := fun us hu => ih (i + 1) us (by omega) hu
    have hE : ∀ us, FV us → Good Tryd.prog (isB true) 1 (pE_F off n cs ty (i : Int) us) (pE_M off n cs ty (i : Int) us) := fun us hu => pE_ok (by omega) hu next
    have d : decide ((i : Int) < (n : Int)) = true := decide_eq_true (by omega)
    have y0 : 0 ≤ (i : Int) := by omega
    have y1 : (i : Int) < (n : Int) := by omega
    generalize eh : intAt cs (off + i * 5 + 1) = h at *
    generalize ed : intAt cs (off + i * 5) = dd at *
    generalize eb : intAt cs (off + i * 5 + 2) = bb at *
    generalize ec : intAt cs (off + i * 5 + 3) = cc at *
    generalize eq : intAt cs (off + i * 5 + 4) = qq at *
    cases hg : gdF ts h with
    | false =>
      have eU : unT ts h = [] := by unfold unT; rw [hg]; rfl
      refine past_vc EL_ok 1000 (vLF off n cs ty (i : Int) ts 0 #[] (fun i' us h' w d' a' b' c' q' => i' = (i : Int) ∧ us = ts ∧ h' = h ∧ w = ts ∧ d' = dd ∧ a' = h ∧ b' = bb ∧ c' = cc ∧ q' = qq) (fun _ _ _ _ _ _ _ _ _ => False)) ?_ (fun _ _ h => h) (fun fs m hb => pNS_good (fun i' us h' w d' a' b' c' q' ⟨e1, e2, e3, e4, e5, e6, e7, e8, e9⟩ => by rw [e1, e2, e3, e4, e5, e6, e7, e8, e9]; exact pN_ok (by omega) hv b1 b2 b3 hg hE) (fun _ _ _ _ _ _ _ _ _ h => h.elim) hb)
      have d2 : decide ((unT ts h).length = 0) = true := by rw [eU]; rfl
      simp only [Int.toNat_natCast, d, d2, a0, a1, a2, a3, a4, eh, ed, eb, ec, eq, b1', y0, y1, hs, hf, decide_true, true_implies, Bool.true_eq_false, Bool.false_eq_true, false_implies, and_true, true_and, pN_d0_ok, pS_d0_ok]
    | true =>
      have hl := (lv_mem hb).2 hg
      have eU : unT ts h = UNL ts h := if_pos hg
      refine past_vc EL_ok 1000 (vLF off n cs ty (i : Int) ts (unT ts h).length (u32s (unT ts h)) (fun _ _ _ _ _ _ _ _ _ => False) (fun i' us h' w d' a' b' c' q' => i' = (i : Int) ∧ us = ts ∧ h' = h ∧ w = ts ∧ d' = dd ∧ a' = h ∧ b' = bb ∧ c' = cc ∧ q' = qq)) ?_ (fun _ _ h => h) (fun fs m hb => pNS_good (fun _ _ _ _ _ _ _ _ _ h => h.elim) (fun i' us h' w d' a' b' c' q' ⟨e1, e2, e3, e4, e5, e6, e7, e8, e9⟩ => by rw [e1, e2, e3, e4, e5, e6, e7, e8, e9]; exact pS_ok (by omega) hv b1 b2 b3 hg hE (pC_ok hv hg (hE _ (FV_cut hv h)) _ 0 (Nat.zero_add _))) hb)
      have d2 : decide ((unT ts h).length = 0) = false := by rw [eU, unl_cons hf hl]; rfl
      simp only [Int.toNat_natCast, d, d2, a0, a1, a2, a3, a4, eh, ed, eb, ec, eq, b1', y0, y1, hs, hf, decide_true, true_implies, Bool.true_eq_false, Bool.false_eq_true, false_implies, and_true, true_and, pN_d0_ok, pS_d0_ok]
theorem whole_row (ha : ActsOk cs off n) : Good Tryd.prog (isB true) 1 [callFr 4 Tryd.f4.ntmps [acS off n] (Tryd.f4.body.getD .skip)] (mkM 1 [(0, ⟨.raw cs, ty, false⟩)]) := by
  refine run_vc EL_ok 1000 (v0F off n cs ty (fun i us => i = ((0 : Nat) : Int) ∧ us = zT ∧ n ≤ 100)) ?_ (fun s m h => h) fun fs m hb => v0_go (fun i us ⟨e1, e2, e3⟩ => by rw [e1, e2]; exact rounds ha e3 n 0 zT (Nat.zero_add _) FV_zero) hb
  cases c : decide ((n : Int) > 100) with
  | true => simp only [c, true_implies, Bool.true_eq_false, false_implies, and_true]
  | false =>
    have c' := of_decide_eq_false c
    simp only [c, true_implies, Bool.false_eq_true, false_implies, and_true, true_and, pL_d0_ok]
    exact ⟨rfl, by omega⟩
theorem whole_none : Good Tryd.prog (isB true) 1 [callFr 4 Tryd.f4.ntmps [eS] (Tryd.f4.body.getD .skip)] (mkM 1 []) := by
  refine run_vc EW_ok 1000 (vZF 0) ?_ (fun s m h => h) fun fs m hb => hb.elim
  first | trivial | rfl
end
end Go.Proofs.YtklhlkdpidkijaaDoor
