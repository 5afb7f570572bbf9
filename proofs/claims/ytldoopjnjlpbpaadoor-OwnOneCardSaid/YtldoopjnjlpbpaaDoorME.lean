/- Of owns: OwnOne: the law's states. -/
import Derived.Test.YtldoopjnjlpbpaaDoorMD
import Derived.Test.YtldoopjnjlpbpaaDoorMC
import Derived.Test.YtldoopjnjlpbpaaDoorE1
import Derived.Test.YtldoopjnjlpbpaaDoorK15
import Derived.Test.YtldoopjnjlpbpaaDoorF1
set_option linter.unusedVariables false
set_option linter.unusedSimpArgs false
namespace Go.Proofs.YtldoopjnjlpbpaaDoor
set_option maxRecDepth 100000
theorem v0F (off : Nat) (n : Nat) (cs : Array Value) (ty : TypeId) (Q : Int → Array Value → Array Value → Prop) : (v0_t off n cs ty).vc (isB true) (v0_x off n cs ty Q) =
  ((decide ((↑n : Int) > (100 : Int)) = true → true = true) ∧ (decide ((↑n : Int) > (100 : Int)) = false → Q (0 : Int) zT zO ∧ CallKind.normal = CallKind.normal ∧ TodoOk (ren 1 [(1, 1), (2, 2)]) pL_d0 pL_d0 ∧ off = off ∧ n = n ∧ (0 : Int) = (0 : Int) ∧ ty = ty ∧ cs = cs ∧ (39 : TypeId) = (39 : Nat) ∧ zT = zT ∧ (46 : TypeId) = (46 : Nat) ∧ zO = zO ∧ True)) := by kernel_rfl
theorem vZF (z : Nat) : (run EW 1000 1 [callFr 3 Tryd.f3.ntmps [eS] (Tryd.f3.body.getD .skip)] (mkM 1 [])).vc (isB true) (fun _ _ => False) =
  (true = true) := by kernel_rfl
theorem vLF (off : Nat) (n : Nat) (cs : Array Value) (ty : TypeId) (i : Int) (ts os : Array Value) (Q : Int → Array Value → Array Value → Prop) : (vL_t off n cs ty i ts os).vc (isB true) (vL_x off n cs ty i ts os Q) =
  ((decide (i < (↑n : Int)) = true → (((0 : Int) ≤ i ∧ i < (↑n : Int)) ∧ True) ∧ (IsInt IntKind.u8 cs (off + Int.toNat i * 5) ∧ IsInt IntKind.u32 cs (off + Int.toNat i * 5 + 1) ∧ IsInt IntKind.u32 cs (off + Int.toNat i * 5 + 2) ∧ IsInt IntKind.u32 cs (off + Int.toNat i * 5 + 3) ∧ IsInt IntKind.i64 cs (off + Int.toNat i * 5 + 4) ∧ True) ∧ ((cD cs off i == (0 : Int)) = true → (Array.size ts = (448 : Nat) ∧ True) ∧ (FIn ts ∧ ((0 : Int) ≤ cA cs off i ∧ cA cs off i < (4294967296 : Int)) ∧ True) ∧ (decide (List.length (unT ts (cA cs off i)) = (0 : Nat)) = true → (Array.size ts = (448 : Nat) ∧ Array.size ts = Array.size ts ∧ True) ∧ Q i ts os ∧ CallKind.normal = CallKind.normal ∧ TodoOk (ren 1 [(1, 1), (2, 2)]) pE_d0 pE_d0 ∧ off = off ∧ n = n ∧ i = i ∧ ty = ty ∧ cs = cs ∧ (39 : TypeId) = (39 : TypeId) ∧ ts = ts ∧ (46 : TypeId) = (46 : TypeId) ∧ os = os ∧ True) ∧ (decide (List.length (unT ts (cA cs off i)) = (0 : Nat)) = false → (Array.size (fellT ts (cA cs off i)) = (448 : Nat) ∧ Array.size (fellT ts (cA cs off i)) = Array.size ts ∧ True) ∧ Q i (fellT ts (cA cs off i)) os ∧ CallKind.normal = CallKind.normal ∧ TodoOk (ren 1 [(1, 1), (2, 2)]) pE_d0 pE_d0 ∧ off = off ∧ n = n ∧ i = i ∧ ty = ty ∧ cs = cs ∧ (39 : TypeId) = (39 : TypeId) ∧ fellT ts (cA cs off i) = fellT ts (cA cs off i) ∧ (46 : TypeId) = (46 : TypeId) ∧ os = os ∧ True)) ∧ ((cD cs off i == (0 : Int)) = false → ((cD cs off i == (1 : Int)) = true → (Array.size ts = (448 : Nat) ∧ True) ∧ (Array.size ts = (448 : Nat) ∧ Array.size ts = (448 : Nat) ∧ True) ∧ (Array.size ts = (448 : Nat) ∧ True) ∧ (FIn ts ∧ ((0 : Int) ≤ cA cs off i ∧ cA cs off i < (4294967296 : Int)) ∧ True) ∧ (Array.size (cutT ts (cA cs off i)) = (448 : Nat) ∧ Array.size (cutT ts (cA cs off i)) = Array.size ts ∧ True) ∧ ((64 : Nat) ≤ Array.size ts ∧ True) ∧ (BkOk (Array.extract ts (0 : Nat) (64 : Nat)) ∧ ((0 : Int) ≤ cA cs off i ∧ cA cs off i < (4294967296 : Int)) ∧ True) ∧ ((goodB (Array.extract ts (0 : Nat) (64 : Nat)) (cA cs off i) == true) = true → (Array.size ts = (448 : Nat) ∧ True) ∧ (FIn ts ∧ ((0 : Int) ≤ cA cs off i ∧ cA cs off i < (4294967296 : Int)) ∧ True) ∧ (((rtF ts (cA cs off i) != cA cs off i) == true) = true → (Array.size os = (128 : Nat) ∧ True) ∧ (Array.size (cutT ts (cA cs off i)) = (448 : Nat) ∧ True) ∧ (OsOk os ∧ FIn (cutT ts (cA cs off i)) ∧ ((0 : Int) ≤ cA cs off i ∧ cA cs off i < (4294967296 : Int)) ∧ True) ∧ (((ofK os (cutT ts (cA cs off i)) (cA cs off i) != (0 : Int)) == true) = true → ((0 : Int) ≤ i ∧ Int.toNat i ≤ n ∧ True) ∧ (ActsOk cs off (Int.toNat i) ∧ Int.toNat i ≤ (1000 : Nat) ∧ True) ∧ ((!bfB cs off (Int.toNat i) (cA cs off i)) = true → false = true) ∧ ((!bfB cs off (Int.toNat i) (cA cs off i)) = false → Q i (cutT ts (cA cs off i)) os ∧ CallKind.normal = CallKind.normal ∧ TodoOk (ren 1 [(1, 1), (2, 2)]) pE_d0 pE_d0 ∧ off = off ∧ n = n ∧ i = i ∧ ty = ty ∧ cs = cs ∧ (39 : TypeId) = (39 : TypeId) ∧ cutT ts (cA cs off i) = cutT ts (cA cs off i) ∧ (46 : TypeId) = (46 : TypeId) ∧ os = os ∧ True)) ∧ (((ofK os (cutT ts (cA cs off i)) (cA cs off i) != (0 : Int)) == true) = false → Q i (cutT ts (cA cs off i)) os ∧ CallKind.normal = CallKind.normal ∧ TodoOk (ren 1 [(1, 1), (2, 2)]) pE_d0 pE_d0 ∧ off = off ∧ n = n ∧ i = i ∧ ty = ty ∧ cs = cs ∧ (39 : TypeId) = (39 : TypeId) ∧ cutT ts (cA cs off i) = cutT ts (cA cs off i) ∧ (46 : TypeId) = (46 : TypeId) ∧ os = os ∧ True)) ∧ (((rtF ts (cA cs off i) != cA cs off i) == true) = false → Q i (cutT ts (cA cs off i)) os ∧ CallKind.normal = CallKind.normal ∧ TodoOk (ren 1 [(1, 1), (2, 2)]) pE_d0 pE_d0 ∧ off = off ∧ n = n ∧ i = i ∧ ty = ty ∧ cs = cs ∧ (39 : TypeId) = (39 : TypeId) ∧ cutT ts (cA cs off i) = cutT ts (cA cs off i) ∧ (46 : TypeId) = (46 : TypeId) ∧ os = os ∧ True)) ∧ ((goodB (Array.extract ts (0 : Nat) (64 : Nat)) (cA cs off i) == true) = false → Q i (cutT ts (cA cs off i)) os ∧ CallKind.normal = CallKind.normal ∧ TodoOk (ren 1 [(1, 1), (2, 2)]) pE_d0 pE_d0 ∧ off = off ∧ n = n ∧ i = i ∧ ty = ty ∧ cs = cs ∧ (39 : TypeId) = (39 : TypeId) ∧ cutT ts (cA cs off i) = cutT ts (cA cs off i) ∧ (46 : TypeId) = (46 : TypeId) ∧ os = os ∧ True)) ∧ ((cD cs off i == (1 : Int)) = false → ((cD cs off i == (2 : Int)) = true → (Array.size ts = (448 : Nat) ∧ True) ∧ (FIn ts ∧ ((0 : Int) ≤ cA cs off i ∧ cA cs off i < (4294967296 : Int)) ∧ ((0 : Int) ≤ intAt cs (off + Int.toNat i * 5 + 2) ∧ intAt cs (off + Int.toNat i * 5 + 2) < (4294967296 : Int)) ∧ True) ∧ (Array.size (grT ts (cA cs off i) (intAt cs (off + Int.toNat i * 5 + 2))) = (448 : Nat) ∧ Array.size (grT ts (cA cs off i) (intAt cs (off + Int.toNat i * 5 + 2))) = Array.size ts ∧ True) ∧ Q i (grT ts (cA cs off i) (intAt cs (off + Int.toNat i * 5 + 2))) os ∧ CallKind.normal = CallKind.normal ∧ TodoOk (ren 1 [(1, 1), (2, 2)]) pE_d0 pE_d0 ∧ off = off ∧ n = n ∧ i = i ∧ ty = ty ∧ cs = cs ∧ (39 : TypeId) = (39 : TypeId) ∧ grT ts (cA cs off i) (intAt cs (off + Int.toNat i * 5 + 2)) = grT ts (cA cs off i) (intAt cs (off + Int.toNat i * 5 + 2)) ∧ (46 : TypeId) = (46 : TypeId) ∧ os = os ∧ True) ∧ ((cD cs off i == (2 : Int)) = false → ((cD cs off i == (10 : Int)) = true → (Array.size os = (128 : Nat) ∧ True) ∧ (Array.size os = (128 : Nat) ∧ Array.size os = (128 : Nat) ∧ True) ∧ ((cD cs off i == (10 : Int)) = true → (Array.size os = (128 : Nat) ∧ True) ∧ (Array.size ts = (448 : Nat) ∧ True) ∧ (OsOk os ∧ FIn ts ∧ ((0 : Int) ≤ cA cs off i ∧ cA cs off i < (4294967296 : Int)) ∧ True) ∧ (Array.size (gvT os ts (cA cs off i) (cQ cs off i)) = (128 : Nat) ∧ Array.size (gvT os ts (cA cs off i) (cQ cs off i)) = Array.size os ∧ True) ∧ (Array.size (gvT os ts (cA cs off i) (cQ cs off i)) = (128 : Nat) ∧ True) ∧ (Array.size ts = (448 : Nat) ∧ True) ∧ (OsOk (gvT os ts (cA cs off i) (cQ cs off i)) ∧ FIn ts ∧ ((0 : Int) ≤ cA cs off i ∧ cA cs off i < (4294967296 : Int)) ∧ True) ∧ (((gvE ts (cA cs off i) (cQ cs off i) == (0 : Int)) == true) = true → (((!(ofK (gvT os ts (cA cs off i) (cQ cs off i)) ts (cA cs off i) == (1 : Int)) == (cD cs off i == (10 : Int))) == false) = true → (((gvE ts (cA cs off i) (cQ cs off i) == (0 : Int)) == true) = true → (((ofK (gvT os ts (cA cs off i) (cQ cs off i)) ts (cA cs off i) != (1 : Int)) == true) = true → ((ofK (gvT os ts (cA cs off i) (cQ cs off i)) ts (cA cs off i) != (3 : Int)) = true → false = true) ∧ ((ofK (gvT os ts (cA cs off i) (cQ cs off i)) ts (cA cs off i) != (3 : Int)) = false → (Array.size (gvT os ts (cA cs off i) (cQ cs off i)) = (128 : Nat) ∧ True) ∧ (Array.size (gvT os ts (cA cs off i) (cQ cs off i)) = (128 : Nat) ∧ Array.size (gvT os ts (cA cs off i) (cQ cs off i)) = Array.size os ∧ True) ∧ Q i ts (gvT os ts (cA cs off i) (cQ cs off i)) ∧ CallKind.normal = CallKind.normal ∧ TodoOk (ren 1 [(1, 1), (2, 2)]) pE_d0 pE_d0 ∧ off = off ∧ n = n ∧ i = i ∧ ty = ty ∧ cs = cs ∧ (39 : TypeId) = (39 : TypeId) ∧ ts = ts ∧ (46 : TypeId) = (46 : TypeId) ∧ gvT os ts (cA cs off i) (cQ cs off i) = gvT os ts (cA cs off i) (cQ cs off i) ∧ True)) ∧ (((ofK (gvT os ts (cA cs off i) (cQ cs off i)) ts (cA cs off i) != (1 : Int)) == true) = false → (Array.size (gvT os ts (cA cs off i) (cQ cs off i)) = (128 : Nat) ∧ True) ∧ (Array.size (gvT os ts (cA cs off i) (cQ cs off i)) = (128 : Nat) ∧ Array.size (gvT os ts (cA cs off i) (cQ cs off i)) = Array.size os ∧ True) ∧ Q i ts (gvT os ts (cA cs off i) (cQ cs off i)) ∧ CallKind.normal = CallKind.normal ∧ TodoOk (ren 1 [(1, 1), (2, 2)]) pE_d0 pE_d0 ∧ off = off ∧ n = n ∧ i = i ∧ ty = ty ∧ cs = cs ∧ (39 : TypeId) = (39 : TypeId) ∧ ts = ts ∧ (46 : TypeId) = (46 : TypeId) ∧ gvT os ts (cA cs off i) (cQ cs off i) = gvT os ts (cA cs off i) (cQ cs off i) ∧ True)) ∧ (((gvE ts (cA cs off i) (cQ cs off i) == (0 : Int)) == true) = false → (Array.size (gvT os ts (cA cs off i) (cQ cs off i)) = (128 : Nat) ∧ True) ∧ (Array.size (gvT os ts (cA cs off i) (cQ cs off i)) = (128 : Nat) ∧ Array.size (gvT os ts (cA cs off i) (cQ cs off i)) = Array.size os ∧ True) ∧ Q i ts (gvT os ts (cA cs off i) (cQ cs off i)) ∧ CallKind.normal = CallKind.normal ∧ TodoOk (ren 1 [(1, 1), (2, 2)]) pE_d0 pE_d0 ∧ off = off ∧ n = n ∧ i = i ∧ ty = ty ∧ cs = cs ∧ (39 : TypeId) = (39 : TypeId) ∧ ts = ts ∧ (46 : TypeId) = (46 : TypeId) ∧ gvT os ts (cA cs off i) (cQ cs off i) = gvT os ts (cA cs off i) (cQ cs off i) ∧ True)) ∧ (((!(ofK (gvT os ts (cA cs off i) (cQ cs off i)) ts (cA cs off i) == (1 : Int)) == (cD cs off i == (10 : Int))) == false) = false → false = true)) ∧ (((gvE ts (cA cs off i) (cQ cs off i) == (0 : Int)) == true) = false → (((gvE ts (cA cs off i) (cQ cs off i) == (0 : Int)) == true) = true → (((ofK (gvT os ts (cA cs off i) (cQ cs off i)) ts (cA cs off i) != (1 : Int)) == true) = true → ((ofK (gvT os ts (cA cs off i) (cQ cs off i)) ts (cA cs off i) != (3 : Int)) = true → false = true) ∧ ((ofK (gvT os ts (cA cs off i) (cQ cs off i)) ts (cA cs off i) != (3 : Int)) = false → (Array.size (gvT os ts (cA cs off i) (cQ cs off i)) = (128 : Nat) ∧ True) ∧ (Array.size (gvT os ts (cA cs off i) (cQ cs off i)) = (128 : Nat) ∧ Array.size (gvT os ts (cA cs off i) (cQ cs off i)) = Array.size os ∧ True) ∧ Q i ts (gvT os ts (cA cs off i) (cQ cs off i)) ∧ CallKind.normal = CallKind.normal ∧ TodoOk (ren 1 [(1, 1), (2, 2)]) pE_d0 pE_d0 ∧ off = off ∧ n = n ∧ i = i ∧ ty = ty ∧ cs = cs ∧ (39 : TypeId) = (39 : TypeId) ∧ ts = ts ∧ (46 : TypeId) = (46 : TypeId) ∧ gvT os ts (cA cs off i) (cQ cs off i) = gvT os ts (cA cs off i) (cQ cs off i) ∧ True)) ∧ (((ofK (gvT os ts (cA cs off i) (cQ cs off i)) ts (cA cs off i) != (1 : Int)) == true) = false → (Array.size (gvT os ts (cA cs off i) (cQ cs off i)) = (128 : Nat) ∧ True) ∧ (Array.size (gvT os ts (cA cs off i) (cQ cs off i)) = (128 : Nat) ∧ Array.size (gvT os ts (cA cs off i) (cQ cs off i)) = Array.size os ∧ True) ∧ Q i ts (gvT os ts (cA cs off i) (cQ cs off i)) ∧ CallKind.normal = CallKind.normal ∧ TodoOk (ren 1 [(1, 1), (2, 2)]) pE_d0 pE_d0 ∧ off = off ∧ n = n ∧ i = i ∧ ty = ty ∧ cs = cs ∧ (39 : TypeId) = (39 : TypeId) ∧ ts = ts ∧ (46 : TypeId) = (46 : TypeId) ∧ gvT os ts (cA cs off i) (cQ cs off i) = gvT os ts (cA cs off i) (cQ cs off i) ∧ True)) ∧ (((gvE ts (cA cs off i) (cQ cs off i) == (0 : Int)) == true) = false → (Array.size (gvT os ts (cA cs off i) (cQ cs off i)) = (128 : Nat) ∧ True) ∧ (Array.size (gvT os ts (cA cs off i) (cQ cs off i)) = (128 : Nat) ∧ Array.size (gvT os ts (cA cs off i) (cQ cs off i)) = Array.size os ∧ True) ∧ Q i ts (gvT os ts (cA cs off i) (cQ cs off i)) ∧ CallKind.normal = CallKind.normal ∧ TodoOk (ren 1 [(1, 1), (2, 2)]) pE_d0 pE_d0 ∧ off = off ∧ n = n ∧ i = i ∧ ty = ty ∧ cs = cs ∧ (39 : TypeId) = (39 : TypeId) ∧ ts = ts ∧ (46 : TypeId) = (46 : TypeId) ∧ gvT os ts (cA cs off i) (cQ cs off i) = gvT os ts (cA cs off i) (cQ cs off i) ∧ True))) ∧ ((cD cs off i == (10 : Int)) = false → (Array.size os = (128 : Nat) ∧ True) ∧ (Array.size ts = (448 : Nat) ∧ True) ∧ (OsOk os ∧ FIn ts ∧ ((0 : Int) ≤ cA cs off i ∧ cA cs off i < (4294967296 : Int)) ∧ True) ∧ (Array.size (frT os ts (cA cs off i) (cQ cs off i)) = (128 : Nat) ∧ Array.size (frT os ts (cA cs off i) (cQ cs off i)) = Array.size os ∧ True) ∧ (Array.size (frT os ts (cA cs off i) (cQ cs off i)) = (128 : Nat) ∧ True) ∧ (Array.size ts = (448 : Nat) ∧ True) ∧ (OsOk (frT os ts (cA cs off i) (cQ cs off i)) ∧ FIn ts ∧ ((0 : Int) ≤ cA cs off i ∧ cA cs off i < (4294967296 : Int)) ∧ True) ∧ (((gvE ts (cA cs off i) (cQ cs off i) == (0 : Int)) == true) = true → (((!(ofK (frT os ts (cA cs off i) (cQ cs off i)) ts (cA cs off i) == (1 : Int)) == (cD cs off i == (10 : Int))) == false) = true → (((gvE ts (cA cs off i) (cQ cs off i) == (0 : Int)) == true) = true → (((ofK (frT os ts (cA cs off i) (cQ cs off i)) ts (cA cs off i) != (1 : Int)) == true) = true → ((ofK (frT os ts (cA cs off i) (cQ cs off i)) ts (cA cs off i) != (3 : Int)) = true → false = true) ∧ ((ofK (frT os ts (cA cs off i) (cQ cs off i)) ts (cA cs off i) != (3 : Int)) = false → (Array.size (frT os ts (cA cs off i) (cQ cs off i)) = (128 : Nat) ∧ True) ∧ (Array.size (frT os ts (cA cs off i) (cQ cs off i)) = (128 : Nat) ∧ Array.size (frT os ts (cA cs off i) (cQ cs off i)) = Array.size os ∧ True) ∧ Q i ts (frT os ts (cA cs off i) (cQ cs off i)) ∧ CallKind.normal = CallKind.normal ∧ TodoOk (ren 1 [(1, 1), (2, 2)]) pE_d0 pE_d0 ∧ off = off ∧ n = n ∧ i = i ∧ ty = ty ∧ cs = cs ∧ (39 : TypeId) = (39 : TypeId) ∧ ts = ts ∧ (46 : TypeId) = (46 : TypeId) ∧ frT os ts (cA cs off i) (cQ cs off i) = frT os ts (cA cs off i) (cQ cs off i) ∧ True)) ∧ (((ofK (frT os ts (cA cs off i) (cQ cs off i)) ts (cA cs off i) != (1 : Int)) == true) = false → (Array.size (frT os ts (cA cs off i) (cQ cs off i)) = (128 : Nat) ∧ True) ∧ (Array.size (frT os ts (cA cs off i) (cQ cs off i)) = (128 : Nat) ∧ Array.size (frT os ts (cA cs off i) (cQ cs off i)) = Array.size os ∧ True) ∧ Q i ts (frT os ts (cA cs off i) (cQ cs off i)) ∧ CallKind.normal = CallKind.normal ∧ TodoOk (ren 1 [(1, 1), (2, 2)]) pE_d0 pE_d0 ∧ off = off ∧ n = n ∧ i = i ∧ ty = ty ∧ cs = cs ∧ (39 : TypeId) = (39 : TypeId) ∧ ts = ts ∧ (46 : TypeId) = (46 : TypeId) ∧ frT os ts (cA cs off i) (cQ cs off i) = frT os ts (cA cs off i) (cQ cs off i) ∧ True)) ∧ (((gvE ts (cA cs off i) (cQ cs off i) == (0 : Int)) == true) = false → (Array.size (frT os ts (cA cs off i) (cQ cs off i)) = (128 : Nat) ∧ True) ∧ (Array.size (frT os ts (cA cs off i) (cQ cs off i)) = (128 : Nat) ∧ Array.size (frT os ts (cA cs off i) (cQ cs off i)) = Array.size os ∧ True) ∧ Q i ts (frT os ts (cA cs off i) (cQ cs off i)) ∧ CallKind.normal = CallKind.normal ∧ TodoOk (ren 1 [(1, 1), (2, 2)]) pE_d0 pE_d0 ∧ off = off ∧ n = n ∧ i = i ∧ ty = ty ∧ cs = cs ∧ (39 : TypeId) = (39 : TypeId) ∧ ts = ts ∧ (46 : TypeId) = (46 : TypeId) ∧ frT os ts (cA cs off i) (cQ cs off i) = frT os ts (cA cs off i) (cQ cs off i) ∧ True)) ∧ (((!(ofK (frT os ts (cA cs off i) (cQ cs off i)) ts (cA cs off i) == (1 : Int)) == (cD cs off i == (10 : Int))) == false) = false → false = true)) ∧ (((gvE ts (cA cs off i) (cQ cs off i) == (0 : Int)) == true) = false → (((gvE ts (cA cs off i) (cQ cs off i) == (0 : Int)) == true) = true → (((ofK (frT os ts (cA cs off i) (cQ cs off i)) ts (cA cs off i) != (1 : Int)) == true) = true → ((ofK (frT os ts (cA cs off i) (cQ cs off i)) ts (cA cs off i) != (3 : Int)) = true → false = true) ∧ ((ofK (frT os ts (cA cs off i) (cQ cs off i)) ts (cA cs off i) != (3 : Int)) = false → (Array.size (frT os ts (cA cs off i) (cQ cs off i)) = (128 : Nat) ∧ True) ∧ (Array.size (frT os ts (cA cs off i) (cQ cs off i)) = (128 : Nat) ∧ Array.size (frT os ts (cA cs off i) (cQ cs off i)) = Array.size os ∧ True) ∧ Q i ts (frT os ts (cA cs off i) (cQ cs off i)) ∧ CallKind.normal = CallKind.normal ∧ TodoOk (ren 1 [(1, 1), (2, 2)]) pE_d0 pE_d0 ∧ off = off ∧ n = n ∧ i = i ∧ ty = ty ∧ cs = cs ∧ (39 : TypeId) = (39 : TypeId) ∧ ts = ts ∧ (46 : TypeId) = (46 : TypeId) ∧ frT os ts (cA cs off i) (cQ cs off i) = frT os ts (cA cs off i) (cQ cs off i) ∧ True)) ∧ (((ofK (frT os ts (cA cs off i) (cQ cs off i)) ts (cA cs off i) != (1 : Int)) == true) = false → (Array.size (frT os ts (cA cs off i) (cQ cs off i)) = (128 : Nat) ∧ True) ∧ (Array.size (frT os ts (cA cs off i) (cQ cs off i)) = (128 : Nat) ∧ Array.size (frT os ts (cA cs off i) (cQ cs off i)) = Array.size os ∧ True) ∧ Q i ts (frT os ts (cA cs off i) (cQ cs off i)) ∧ CallKind.normal = CallKind.normal ∧ TodoOk (ren 1 [(1, 1), (2, 2)]) pE_d0 pE_d0 ∧ off = off ∧ n = n ∧ i = i ∧ ty = ty ∧ cs = cs ∧ (39 : TypeId) = (39 : TypeId) ∧ ts = ts ∧ (46 : TypeId) = (46 : TypeId) ∧ frT os ts (cA cs off i) (cQ cs off i) = frT os ts (cA cs off i) (cQ cs off i) ∧ True)) ∧ (((gvE ts (cA cs off i) (cQ cs off i) == (0 : Int)) == true) = false → (Array.size (frT os ts (cA cs off i) (cQ cs off i)) = (128 : Nat) ∧ True) ∧ (Array.size (frT os ts (cA cs off i) (cQ cs off i)) = (128 : Nat) ∧ Array.size (frT os ts (cA cs off i) (cQ cs off i)) = Array.size os ∧ True) ∧ Q i ts (frT os ts (cA cs off i) (cQ cs off i)) ∧ CallKind.normal = CallKind.normal ∧ TodoOk (ren 1 [(1, 1), (2, 2)]) pE_d0 pE_d0 ∧ off = off ∧ n = n ∧ i = i ∧ ty = ty ∧ cs = cs ∧ (39 : TypeId) = (39 : TypeId) ∧ ts = ts ∧ (46 : TypeId) = (46 : TypeId) ∧ frT os ts (cA cs off i) (cQ cs off i) = frT os ts (cA cs off i) (cQ cs off i) ∧ True)))) ∧ ((cD cs off i == (10 : Int)) = false → ((cD cs off i == (12 : Int)) = true → (Array.size os = (128 : Nat) ∧ True) ∧ (Array.size os = (128 : Nat) ∧ Array.size os = (128 : Nat) ∧ True) ∧ ((cD cs off i == (10 : Int)) = true → (Array.size os = (128 : Nat) ∧ True) ∧ (Array.size ts = (448 : Nat) ∧ True) ∧ (OsOk os ∧ FIn ts ∧ ((0 : Int) ≤ cA cs off i ∧ cA cs off i < (4294967296 : Int)) ∧ True) ∧ (Array.size (gvT os ts (cA cs off i) (cQ cs off i)) = (128 : Nat) ∧ Array.size (gvT os ts (cA cs off i) (cQ cs off i)) = Array.size os ∧ True) ∧ (Array.size (gvT os ts (cA cs off i) (cQ cs off i)) = (128 : Nat) ∧ True) ∧ (Array.size ts = (448 : Nat) ∧ True) ∧ (OsOk (gvT os ts (cA cs off i) (cQ cs off i)) ∧ FIn ts ∧ ((0 : Int) ≤ cA cs off i ∧ cA cs off i < (4294967296 : Int)) ∧ True) ∧ (((gvE ts (cA cs off i) (cQ cs off i) == (0 : Int)) == true) = true → (((!(ofK (gvT os ts (cA cs off i) (cQ cs off i)) ts (cA cs off i) == (1 : Int)) == (cD cs off i == (10 : Int))) == false) = true → (((gvE ts (cA cs off i) (cQ cs off i) == (0 : Int)) == true) = true → (((ofK (gvT os ts (cA cs off i) (cQ cs off i)) ts (cA cs off i) != (1 : Int)) == true) = true → ((ofK (gvT os ts (cA cs off i) (cQ cs off i)) ts (cA cs off i) != (3 : Int)) = true → false = true) ∧ ((ofK (gvT os ts (cA cs off i) (cQ cs off i)) ts (cA cs off i) != (3 : Int)) = false → (Array.size (gvT os ts (cA cs off i) (cQ cs off i)) = (128 : Nat) ∧ True) ∧ (Array.size (gvT os ts (cA cs off i) (cQ cs off i)) = (128 : Nat) ∧ Array.size (gvT os ts (cA cs off i) (cQ cs off i)) = Array.size os ∧ True) ∧ Q i ts (gvT os ts (cA cs off i) (cQ cs off i)) ∧ CallKind.normal = CallKind.normal ∧ TodoOk (ren 1 [(1, 1), (2, 2)]) pE_d0 pE_d0 ∧ off = off ∧ n = n ∧ i = i ∧ ty = ty ∧ cs = cs ∧ (39 : TypeId) = (39 : TypeId) ∧ ts = ts ∧ (46 : TypeId) = (46 : TypeId) ∧ gvT os ts (cA cs off i) (cQ cs off i) = gvT os ts (cA cs off i) (cQ cs off i) ∧ True)) ∧ (((ofK (gvT os ts (cA cs off i) (cQ cs off i)) ts (cA cs off i) != (1 : Int)) == true) = false → (Array.size (gvT os ts (cA cs off i) (cQ cs off i)) = (128 : Nat) ∧ True) ∧ (Array.size (gvT os ts (cA cs off i) (cQ cs off i)) = (128 : Nat) ∧ Array.size (gvT os ts (cA cs off i) (cQ cs off i)) = Array.size os ∧ True) ∧ Q i ts (gvT os ts (cA cs off i) (cQ cs off i)) ∧ CallKind.normal = CallKind.normal ∧ TodoOk (ren 1 [(1, 1), (2, 2)]) pE_d0 pE_d0 ∧ off = off ∧ n = n ∧ i = i ∧ ty = ty ∧ cs = cs ∧ (39 : TypeId) = (39 : TypeId) ∧ ts = ts ∧ (46 : TypeId) = (46 : TypeId) ∧ gvT os ts (cA cs off i) (cQ cs off i) = gvT os ts (cA cs off i) (cQ cs off i) ∧ True)) ∧ (((gvE ts (cA cs off i) (cQ cs off i) == (0 : Int)) == true) = false → (Array.size (gvT os ts (cA cs off i) (cQ cs off i)) = (128 : Nat) ∧ True) ∧ (Array.size (gvT os ts (cA cs off i) (cQ cs off i)) = (128 : Nat) ∧ Array.size (gvT os ts (cA cs off i) (cQ cs off i)) = Array.size os ∧ True) ∧ Q i ts (gvT os ts (cA cs off i) (cQ cs off i)) ∧ CallKind.normal = CallKind.normal ∧ TodoOk (ren 1 [(1, 1), (2, 2)]) pE_d0 pE_d0 ∧ off = off ∧ n = n ∧ i = i ∧ ty = ty ∧ cs = cs ∧ (39 : TypeId) = (39 : TypeId) ∧ ts = ts ∧ (46 : TypeId) = (46 : TypeId) ∧ gvT os ts (cA cs off i) (cQ cs off i) = gvT os ts (cA cs off i) (cQ cs off i) ∧ True)) ∧ (((!(ofK (gvT os ts (cA cs off i) (cQ cs off i)) ts (cA cs off i) == (1 : Int)) == (cD cs off i == (10 : Int))) == false) = false → false = true)) ∧ (((gvE ts (cA cs off i) (cQ cs off i) == (0 : Int)) == true) = false → (((gvE ts (cA cs off i) (cQ cs off i) == (0 : Int)) == true) = true → (((ofK (gvT os ts (cA cs off i) (cQ cs off i)) ts (cA cs off i) != (1 : Int)) == true) = true → ((ofK (gvT os ts (cA cs off i) (cQ cs off i)) ts (cA cs off i) != (3 : Int)) = true → false = true) ∧ ((ofK (gvT os ts (cA cs off i) (cQ cs off i)) ts (cA cs off i) != (3 : Int)) = false → (Array.size (gvT os ts (cA cs off i) (cQ cs off i)) = (128 : Nat) ∧ True) ∧ (Array.size (gvT os ts (cA cs off i) (cQ cs off i)) = (128 : Nat) ∧ Array.size (gvT os ts (cA cs off i) (cQ cs off i)) = Array.size os ∧ True) ∧ Q i ts (gvT os ts (cA cs off i) (cQ cs off i)) ∧ CallKind.normal = CallKind.normal ∧ TodoOk (ren 1 [(1, 1), (2, 2)]) pE_d0 pE_d0 ∧ off = off ∧ n = n ∧ i = i ∧ ty = ty ∧ cs = cs ∧ (39 : TypeId) = (39 : TypeId) ∧ ts = ts ∧ (46 : TypeId) = (46 : TypeId) ∧ gvT os ts (cA cs off i) (cQ cs off i) = gvT os ts (cA cs off i) (cQ cs off i) ∧ True)) ∧ (((ofK (gvT os ts (cA cs off i) (cQ cs off i)) ts (cA cs off i) != (1 : Int)) == true) = false → (Array.size (gvT os ts (cA cs off i) (cQ cs off i)) = (128 : Nat) ∧ True) ∧ (Array.size (gvT os ts (cA cs off i) (cQ cs off i)) = (128 : Nat) ∧ Array.size (gvT os ts (cA cs off i) (cQ cs off i)) = Array.size os ∧ True) ∧ Q i ts (gvT os ts (cA cs off i) (cQ cs off i)) ∧ CallKind.normal = CallKind.normal ∧ TodoOk (ren 1 [(1, 1), (2, 2)]) pE_d0 pE_d0 ∧ off = off ∧ n = n ∧ i = i ∧ ty = ty ∧ cs = cs ∧ (39 : TypeId) = (39 : TypeId) ∧ ts = ts ∧ (46 : TypeId) = (46 : TypeId) ∧ gvT os ts (cA cs off i) (cQ cs off i) = gvT os ts (cA cs off i) (cQ cs off i) ∧ True)) ∧ (((gvE ts (cA cs off i) (cQ cs off i) == (0 : Int)) == true) = false → (Array.size (gvT os ts (cA cs off i) (cQ cs off i)) = (128 : Nat) ∧ True) ∧ (Array.size (gvT os ts (cA cs off i) (cQ cs off i)) = (128 : Nat) ∧ Array.size (gvT os ts (cA cs off i) (cQ cs off i)) = Array.size os ∧ True) ∧ Q i ts (gvT os ts (cA cs off i) (cQ cs off i)) ∧ CallKind.normal = CallKind.normal ∧ TodoOk (ren 1 [(1, 1), (2, 2)]) pE_d0 pE_d0 ∧ off = off ∧ n = n ∧ i = i ∧ ty = ty ∧ cs = cs ∧ (39 : TypeId) = (39 : TypeId) ∧ ts = ts ∧ (46 : TypeId) = (46 : TypeId) ∧ gvT os ts (cA cs off i) (cQ cs off i) = gvT os ts (cA cs off i) (cQ cs off i) ∧ True))) ∧ ((cD cs off i == (10 : Int)) = false → (Array.size os = (128 : Nat) ∧ True) ∧ (Array.size ts = (448 : Nat) ∧ True) ∧ (OsOk os ∧ FIn ts ∧ ((0 : Int) ≤ cA cs off i ∧ cA cs off i < (4294967296 : Int)) ∧ True) ∧ (Array.size (frT os ts (cA cs off i) (cQ cs off i)) = (128 : Nat) ∧ Array.size (frT os ts (cA cs off i) (cQ cs off i)) = Array.size os ∧ True) ∧ (Array.size (frT os ts (cA cs off i) (cQ cs off i)) = (128 : Nat) ∧ True) ∧ (Array.size ts = (448 : Nat) ∧ True) ∧ (OsOk (frT os ts (cA cs off i) (cQ cs off i)) ∧ FIn ts ∧ ((0 : Int) ≤ cA cs off i ∧ cA cs off i < (4294967296 : Int)) ∧ True) ∧ (((gvE ts (cA cs off i) (cQ cs off i) == (0 : Int)) == true) = true → (((!(ofK (frT os ts (cA cs off i) (cQ cs off i)) ts (cA cs off i) == (1 : Int)) == (cD cs off i == (10 : Int))) == false) = true → (((gvE ts (cA cs off i) (cQ cs off i) == (0 : Int)) == true) = true → (((ofK (frT os ts (cA cs off i) (cQ cs off i)) ts (cA cs off i) != (1 : Int)) == true) = true → ((ofK (frT os ts (cA cs off i) (cQ cs off i)) ts (cA cs off i) != (3 : Int)) = true → false = true) ∧ ((ofK (frT os ts (cA cs off i) (cQ cs off i)) ts (cA cs off i) != (3 : Int)) = false → (Array.size (frT os ts (cA cs off i) (cQ cs off i)) = (128 : Nat) ∧ True) ∧ (Array.size (frT os ts (cA cs off i) (cQ cs off i)) = (128 : Nat) ∧ Array.size (frT os ts (cA cs off i) (cQ cs off i)) = Array.size os ∧ True) ∧ Q i ts (frT os ts (cA cs off i) (cQ cs off i)) ∧ CallKind.normal = CallKind.normal ∧ TodoOk (ren 1 [(1, 1), (2, 2)]) pE_d0 pE_d0 ∧ off = off ∧ n = n ∧ i = i ∧ ty = ty ∧ cs = cs ∧ (39 : TypeId) = (39 : TypeId) ∧ ts = ts ∧ (46 : TypeId) = (46 : TypeId) ∧ frT os ts (cA cs off i) (cQ cs off i) = frT os ts (cA cs off i) (cQ cs off i) ∧ True)) ∧ (((ofK (frT os ts (cA cs off i) (cQ cs off i)) ts (cA cs off i) != (1 : Int)) == true) = false → (Array.size (frT os ts (cA cs off i) (cQ cs off i)) = (128 : Nat) ∧ True) ∧ (Array.size (frT os ts (cA cs off i) (cQ cs off i)) = (128 : Nat) ∧ Array.size (frT os ts (cA cs off i) (cQ cs off i)) = Array.size os ∧ True) ∧ Q i ts (frT os ts (cA cs off i) (cQ cs off i)) ∧ CallKind.normal = CallKind.normal ∧ TodoOk (ren 1 [(1, 1), (2, 2)]) pE_d0 pE_d0 ∧ off = off ∧ n = n ∧ i = i ∧ ty = ty ∧ cs = cs ∧ (39 : TypeId) = (39 : TypeId) ∧ ts = ts ∧ (46 : TypeId) = (46 : TypeId) ∧ frT os ts (cA cs off i) (cQ cs off i) = frT os ts (cA cs off i) (cQ cs off i) ∧ True)) ∧ (((gvE ts (cA cs off i) (cQ cs off i) == (0 : Int)) == true) = false → (Array.size (frT os ts (cA cs off i) (cQ cs off i)) = (128 : Nat) ∧ True) ∧ (Array.size (frT os ts (cA cs off i) (cQ cs off i)) = (128 : Nat) ∧ Array.size (frT os ts (cA cs off i) (cQ cs off i)) = Array.size os ∧ True) ∧ Q i ts (frT os ts (cA cs off i) (cQ cs off i)) ∧ CallKind.normal = CallKind.normal ∧ TodoOk (ren 1 [(1, 1), (2, 2)]) pE_d0 pE_d0 ∧ off = off ∧ n = n ∧ i = i ∧ ty = ty ∧ cs = cs ∧ (39 : TypeId) = (39 : TypeId) ∧ ts = ts ∧ (46 : TypeId) = (46 : TypeId) ∧ frT os ts (cA cs off i) (cQ cs off i) = frT os ts (cA cs off i) (cQ cs off i) ∧ True)) ∧ (((!(ofK (frT os ts (cA cs off i) (cQ cs off i)) ts (cA cs off i) == (1 : Int)) == (cD cs off i == (10 : Int))) == false) = false → false = true)) ∧ (((gvE ts (cA cs off i) (cQ cs off i) == (0 : Int)) == true) = false → (((gvE ts (cA cs off i) (cQ cs off i) == (0 : Int)) == true) = true → (((ofK (frT os ts (cA cs off i) (cQ cs off i)) ts (cA cs off i) != (1 : Int)) == true) = true → ((ofK (frT os ts (cA cs off i) (cQ cs off i)) ts (cA cs off i) != (3 : Int)) = true → false = true) ∧ ((ofK (frT os ts (cA cs off i) (cQ cs off i)) ts (cA cs off i) != (3 : Int)) = false → (Array.size (frT os ts (cA cs off i) (cQ cs off i)) = (128 : Nat) ∧ True) ∧ (Array.size (frT os ts (cA cs off i) (cQ cs off i)) = (128 : Nat) ∧ Array.size (frT os ts (cA cs off i) (cQ cs off i)) = Array.size os ∧ True) ∧ Q i ts (frT os ts (cA cs off i) (cQ cs off i)) ∧ CallKind.normal = CallKind.normal ∧ TodoOk (ren 1 [(1, 1), (2, 2)]) pE_d0 pE_d0 ∧ off = off ∧ n = n ∧ i = i ∧ ty = ty ∧ cs = cs ∧ (39 : TypeId) = (39 : TypeId) ∧ ts = ts ∧ (46 : TypeId) = (46 : TypeId) ∧ frT os ts (cA cs off i) (cQ cs off i) = frT os ts (cA cs off i) (cQ cs off i) ∧ True)) ∧ (((ofK (frT os ts (cA cs off i) (cQ cs off i)) ts (cA cs off i) != (1 : Int)) == true) = false → (Array.size (frT os ts (cA cs off i) (cQ cs off i)) = (128 : Nat) ∧ True) ∧ (Array.size (frT os ts (cA cs off i) (cQ cs off i)) = (128 : Nat) ∧ Array.size (frT os ts (cA cs off i) (cQ cs off i)) = Array.size os ∧ True) ∧ Q i ts (frT os ts (cA cs off i) (cQ cs off i)) ∧ CallKind.normal = CallKind.normal ∧ TodoOk (ren 1 [(1, 1), (2, 2)]) pE_d0 pE_d0 ∧ off = off ∧ n = n ∧ i = i ∧ ty = ty ∧ cs = cs ∧ (39 : TypeId) = (39 : TypeId) ∧ ts = ts ∧ (46 : TypeId) = (46 : TypeId) ∧ frT os ts (cA cs off i) (cQ cs off i) = frT os ts (cA cs off i) (cQ cs off i) ∧ True)) ∧ (((gvE ts (cA cs off i) (cQ cs off i) == (0 : Int)) == true) = false → (Array.size (frT os ts (cA cs off i) (cQ cs off i)) = (128 : Nat) ∧ True) ∧ (Array.size (frT os ts (cA cs off i) (cQ cs off i)) = (128 : Nat) ∧ Array.size (frT os ts (cA cs off i) (cQ cs off i)) = Array.size os ∧ True) ∧ Q i ts (frT os ts (cA cs off i) (cQ cs off i)) ∧ CallKind.normal = CallKind.normal ∧ TodoOk (ren 1 [(1, 1), (2, 2)]) pE_d0 pE_d0 ∧ off = off ∧ n = n ∧ i = i ∧ ty = ty ∧ cs = cs ∧ (39 : TypeId) = (39 : TypeId) ∧ ts = ts ∧ (46 : TypeId) = (46 : TypeId) ∧ frT os ts (cA cs off i) (cQ cs off i) = frT os ts (cA cs off i) (cQ cs off i) ∧ True)))) ∧ ((cD cs off i == (12 : Int)) = false → ((cD cs off i == (11 : Int)) = true → (Array.size os = (128 : Nat) ∧ True) ∧ (Array.size ts = (448 : Nat) ∧ True) ∧ (OsOk os ∧ FIn ts ∧ ((0 : Int) ≤ cA cs off i ∧ cA cs off i < (4294967296 : Int)) ∧ True) ∧ (Array.size (fyT os ts (cA cs off i)) = (128 : Nat) ∧ Array.size (fyT os ts (cA cs off i)) = Array.size os ∧ True) ∧ Q i ts (fyT os ts (cA cs off i)) ∧ CallKind.normal = CallKind.normal ∧ TodoOk (ren 1 [(1, 1), (2, 2)]) pE_d0 pE_d0 ∧ off = off ∧ n = n ∧ i = i ∧ ty = ty ∧ cs = cs ∧ (39 : TypeId) = (39 : TypeId) ∧ ts = ts ∧ (46 : TypeId) = (46 : TypeId) ∧ fyT os ts (cA cs off i) = fyT os ts (cA cs off i) ∧ True) ∧ ((cD cs off i == (11 : Int)) = false → ((cD cs off i == (13 : Int)) = true → (Array.size os = (128 : Nat) ∧ True) ∧ (Array.size ts = (448 : Nat) ∧ True) ∧ (OsOk os ∧ FIn ts ∧ ((0 : Int) ≤ cA cs off i ∧ cA cs off i < (4294967296 : Int)) ∧ True) ∧ (Array.size (hdT os ts (cA cs off i) (cQ cs off i)) = (128 : Nat) ∧ Array.size (hdT os ts (cA cs off i) (cQ cs off i)) = Array.size os ∧ True) ∧ Q i ts (hdT os ts (cA cs off i) (cQ cs off i)) ∧ CallKind.normal = CallKind.normal ∧ TodoOk (ren 1 [(1, 1), (2, 2)]) pE_d0 pE_d0 ∧ off = off ∧ n = n ∧ i = i ∧ ty = ty ∧ cs = cs ∧ (39 : TypeId) = (39 : TypeId) ∧ ts = ts ∧ (46 : TypeId) = (46 : TypeId) ∧ hdT os ts (cA cs off i) (cQ cs off i) = hdT os ts (cA cs off i) (cQ cs off i) ∧ True) ∧ ((cD cs off i == (13 : Int)) = false → ((cD cs off i == (14 : Int)) = true → (Array.size os = (128 : Nat) ∧ True) ∧ (Array.size ts = (448 : Nat) ∧ True) ∧ (OsOk os ∧ FIn ts ∧ ((0 : Int) ≤ cA cs off i ∧ cA cs off i < (4294967296 : Int)) ∧ True) ∧ (Array.size (odT os ts (cA cs off i) (cQ cs off i)) = (128 : Nat) ∧ Array.size (odT os ts (cA cs off i) (cQ cs off i)) = Array.size os ∧ True) ∧ Q i ts (odT os ts (cA cs off i) (cQ cs off i)) ∧ CallKind.normal = CallKind.normal ∧ TodoOk (ren 1 [(1, 1), (2, 2)]) pE_d0 pE_d0 ∧ off = off ∧ n = n ∧ i = i ∧ ty = ty ∧ cs = cs ∧ (39 : TypeId) = (39 : TypeId) ∧ ts = ts ∧ (46 : TypeId) = (46 : TypeId) ∧ odT os ts (cA cs off i) (cQ cs off i) = odT os ts (cA cs off i) (cQ cs off i) ∧ True) ∧ ((cD cs off i == (14 : Int)) = false → (Array.size ts = (448 : Nat) ∧ True) ∧ (FIn ts ∧ ((0 : Int) ≤ cA cs off i ∧ cA cs off i < (4294967296 : Int)) ∧ True) ∧ (Array.size (fnT ts (cA cs off i) (cQ cs off i)) = (448 : Nat) ∧ Array.size (fnT ts (cA cs off i) (cQ cs off i)) = (448 : Nat) ∧ True) ∧ (Array.size (fnT ts (cA cs off i) (cQ cs off i)) = (448 : Nat) ∧ True) ∧ (Array.size (fnT ts (cA cs off i) (cQ cs off i)) = (448 : Nat) ∧ Array.size (fnT ts (cA cs off i) (cQ cs off i)) = Array.size ts ∧ True) ∧ (((fnE ts (cA cs off i) (cQ cs off i) == (0 : Int)) == true) = true → (((cA cs off i == (0 : Int)) == true) = true → (Array.size os = (128 : Nat) ∧ True) ∧ (Array.size (fnT ts (cA cs off i) (cQ cs off i)) = (448 : Nat) ∧ True) ∧ (OsOk os ∧ FIn (fnT ts (cA cs off i) (cQ cs off i)) ∧ ((0 : Int) ≤ fnI ts (cA cs off i) (cQ cs off i) ∧ fnI ts (cA cs off i) (cQ cs off i) < (4294967296 : Int)) ∧ True) ∧ ((!(ofK os (fnT ts (cA cs off i) (cQ cs off i)) (fnI ts (cA cs off i) (cQ cs off i)) == (0 : Int) && (ofT os (fnT ts (cA cs off i) (cQ cs off i)) (fnI ts (cA cs off i) (cQ cs off i)) == (0 : Int) && ofH os (fnT ts (cA cs off i) (cQ cs off i)) (fnI ts (cA cs off i) (cQ cs off i)) == (0 : Int)))) = true → false = true) ∧ ((!(ofK os (fnT ts (cA cs off i) (cQ cs off i)) (fnI ts (cA cs off i) (cQ cs off i)) == (0 : Int) && (ofT os (fnT ts (cA cs off i) (cQ cs off i)) (fnI ts (cA cs off i) (cQ cs off i)) == (0 : Int) && ofH os (fnT ts (cA cs off i) (cQ cs off i)) (fnI ts (cA cs off i) (cQ cs off i)) == (0 : Int)))) = false → Q i (fnT ts (cA cs off i) (cQ cs off i)) os ∧ CallKind.normal = CallKind.normal ∧ TodoOk (ren 1 [(1, 1), (2, 2)]) pE_d0 pE_d0 ∧ off = off ∧ n = n ∧ i = i ∧ ty = ty ∧ cs = cs ∧ (39 : TypeId) = (39 : TypeId) ∧ fnT ts (cA cs off i) (cQ cs off i) = fnT ts (cA cs off i) (cQ cs off i) ∧ (46 : TypeId) = (46 : TypeId) ∧ os = os ∧ True)) ∧ (((cA cs off i == (0 : Int)) == true) = false → Q i (fnT ts (cA cs off i) (cQ cs off i)) os ∧ CallKind.normal = CallKind.normal ∧ TodoOk (ren 1 [(1, 1), (2, 2)]) pE_d0 pE_d0 ∧ off = off ∧ n = n ∧ i = i ∧ ty = ty ∧ cs = cs ∧ (39 : TypeId) = (39 : TypeId) ∧ fnT ts (cA cs off i) (cQ cs off i) = fnT ts (cA cs off i) (cQ cs off i) ∧ (46 : TypeId) = (46 : TypeId) ∧ os = os ∧ True)) ∧ (((fnE ts (cA cs off i) (cQ cs off i) == (0 : Int)) == true) = false → Q i (fnT ts (cA cs off i) (cQ cs off i)) os ∧ CallKind.normal = CallKind.normal ∧ TodoOk (ren 1 [(1, 1), (2, 2)]) pE_d0 pE_d0 ∧ off = off ∧ n = n ∧ i = i ∧ ty = ty ∧ cs = cs ∧ (39 : TypeId) = (39 : TypeId) ∧ fnT ts (cA cs off i) (cQ cs off i) = fnT ts (cA cs off i) (cQ cs off i) ∧ (46 : TypeId) = (46 : TypeId) ∧ os = os ∧ True)))))))))) ∧ (decide (i < (↑n : Int)) = false → true = true)) := by kernel_rfl
theorem vEF (off : Nat) (n : Nat) (cs : Array Value) (ty : TypeId) (i : Int) (ts os : Array Value) (Q : Int → Array Value → Array Value → Prop) : (vE_t off n cs ty i ts os).vc (isB true) (vE_x off n cs ty i ts os Q) =
  ((Array.size ts = (448 : Nat) ∧ True) ∧ (Array.size os = (128 : Nat) ∧ True) ∧ (OsOk os ∧ FIn ts ∧ ON os ∧ True) ∧ Q (ari BinOp.add IntKind.i64 i (1 : Int)) ts os ∧ CallKind.normal = CallKind.normal ∧ TodoOk (ren 1 [(1, 1), (2, 2)]) pL_d0 pL_d0 ∧ off = off ∧ n = n ∧ ari BinOp.add IntKind.i64 i (1 : Int) = ari BinOp.add IntKind.i64 i (1 : Int) ∧ ty = ty ∧ cs = cs ∧ (39 : TypeId) = (39 : TypeId) ∧ ts = ts ∧ (46 : TypeId) = (46 : TypeId) ∧ os = os ∧ True) := by kernel_rfl
end Go.Proofs.YtldoopjnjlpbpaaDoor
/- Of owns: what is said, act by act. No condition. -/
namespace Go.Proofs.YtldoopjnjlpbpaaDoor
set_option maxRecDepth 100000
set_option linter.unusedSimpArgs false
set_option linter.unusedVariables false
structure JJ (cs : Array Value) (off k : Nat) (ts os : Array Value) : Prop where
 v : FV ts
 o : OsOk os
 n : ON os
 u : ∀ s, s < 32 → oR os s = 0 ∨ usedB (bkB ts) (oR os s)
 b : ∀ s, s < 32 → oR os s ≠ 0 → bfB cs off k (oR os s) = true
section
variable {cs ts us os : Array Value} {off k : Nat}
theorem bf_mono {a : Int} (h : bfB cs off k a = true) : bfB cs off (k + 1) a = true := by
 obtain ⟨i, h1, h2⟩ := bfB_iff.1 h
 exact bfB_iff.2 ⟨i, by omega, h2⟩
theorem bf_now {a : Int} (h : sdB cs (off + k * 5) a = true) : bfB cs off (k + 1) a = true := bfB_iff.2 ⟨k, by omega, h⟩
theorem JJ.keep (J : JJ cs off k ts os) (hv : FV us) (hu : ∀ r, usedB (bkB ts) r → usedB (bkB us) r) : JJ cs off (k + 1) us os :=
 ⟨hv, J.o, J.n, fun s hs => (J.u s hs).imp id (hu _), fun s hs h0 => bf_mono (J.b s hs h0)⟩
theorem JJ.same (J : JJ cs off k ts os) : JJ cs off (k + 1) ts os := J.keep J.v fun _ h => h
theorem say_at (ho : OsOk os) {r : Int} (hr : inH r) {kd t h : Int} {s j : Nat} (hs : s < 32) (hj : j < 4) : (sayT os r kd t h)[s * 4 + j]? = if s = sl r then ([.int .u32 r, .int .u8 kd, .int .u8 t, .int .u8 h] : List Value)[j]? else os[s * 4 + j]? := by
 have h32 := sl_32 hr
 have hz := ho.sz
 have hl : sl r * 4 + ([.int .u32 r, .int .u8 kd, .int .u8 t, .int .u8 h] : List Value).length ≤ os.size := by
  rw [hz]; simp only [List.length_cons, List.length_nil]; omega
 have el : ([.int .u32 r, .int .u8 kd, .int .u8 t, .int .u8 h] : List Value).length = 4 := rfl
 unfold sayT
 split
 ·rename_i e
  rw [putAt_in hl (by omega) (by rw [el]; omega)]
  congr 1
  omega
 ·rename_i e
  exact putAt_out hl (by rw [el]; omega)
theorem say_os (ho : OsOk os) {r : Int} (hr : inH r) {kd t h : Int} (hk : 0 ≤ kd ∧ kd ≤ 255) (ht : 0 ≤ t ∧ t ≤ 255) (hh : 0 ≤ h ∧ h ≤ 255) : OsOk (sayT os r kd t h) ∧ ∀ s, s < 32 → oR (sayT os r kd t h) s = (if s = sl r then r else oR os s) ∧ oK (sayT os r kd t h) s = (if s = sl r then kd else oK os s) ∧ oT (sayT os r kd t h) s = (if s = sl r then t else oT os s) ∧ oH (sayT os r kd t h) s = (if s = sl r then h else oH os s) := by
 have key : ∀ s, s < 32 → OsIs (sayT os r kd t h) (s * 4) ∧ oR (sayT os r kd t h) s = (if s = sl r then r else oR os s) ∧ oK (sayT os r kd t h) s = (if s = sl r then kd else oK os s) ∧ oT (sayT os r kd t h) s = (if s = sl r then t else oT os s) ∧ oH (sayT os r kd t h) s = (if s = sl r then h else oH os s) := by
  intro s hs
  have a0 := say_at ho hr (kd := kd) (t := t) (h := h) hs (show 0 < 4 by decide)
  have a1 := say_at ho hr (kd := kd) (t := t) (h := h) hs (show 1 < 4 by decide)
  have a2 := say_at ho hr (kd := kd) (t := t) (h := h) hs (show 2 < 4 by decide)
  have a3 := say_at ho hr (kd := kd) (t := t) (h := h) hs (show 3 < 4 by decide)
  rw [Nat.add_zero] at a0
  by_cases e : s = sl r
  ·rw [if_pos e] at a0 a1 a2 a3
   have b0 : (sayT os r kd t h)[s * 4]? = some (.int .u32 r) := a0
   have b1 : (sayT os r kd t h)[s * 4 + 1]? = some (.int .u8 kd) := a1
   have b2 : (sayT os r kd t h)[s * 4 + 2]? = some (.int .u8 t) := a2
   have b3 : (sayT os r kd t h)[s * 4 + 3]? = some (.int .u8 h) := a3
   simp only [if_pos e]
   refine ⟨⟨isI_of b0, isI_of b1, isI_of b2, isI_of b3, ?_, ?_, ?_, ?_⟩, intAt_of b0, intAt_of b1, intAt_of b2, intAt_of b3⟩
   ·rw [intAt_of b0]; exact hr
   ·rw [intAt_of b1]; exact hk
   ·rw [intAt_of b2]; exact ht
   ·rw [intAt_of b3]; exact hh
  ·rw [if_neg e] at a0 a1 a2 a3
   have c := ho.c s hs
   have i0 : intAt (sayT os r kd t h) (s * 4) = intAt os (s * 4) := by unfold intAt; rw [a0]
   have i1 : intAt (sayT os r kd t h) (s * 4 + 1) = intAt os (s * 4 + 1) := by unfold intAt; rw [a1]
   have i2 : intAt (sayT os r kd t h) (s * 4 + 2) = intAt os (s * 4 + 2) := by unfold intAt; rw [a2]
   have i3 : intAt (sayT os r kd t h) (s * 4 + 3) = intAt os (s * 4 + 3) := by unfold intAt; rw [a3]
   simp only [if_neg e]
   refine ⟨⟨?_, ?_, ?_, ?_, ?_, ?_, ?_, ?_⟩, i0, i1, i2, i3⟩
   ·have := c.r; unfold IsInt at *; rw [i0, a0]; exact this
   ·have := c.k; unfold IsInt at *; rw [i1, a1]; exact this
   ·have := c.t; unfold IsInt at *; rw [i2, a2]; exact this
   ·have := c.h; unfold IsInt at *; rw [i3, a3]; exact this
   ·rw [i0]; exact c.hr
   ·rw [i1]; exact c.hk
   ·rw [i2]; exact c.ht
   ·rw [i3]; exact c.hh
 exact ⟨⟨say_sz ho hr kd t h, fun i hi => (key i hi).1⟩, fun s hs => (key s hs).2⟩
theorem gd_slot {h : Int} (hg : gdF ts h = true) : slotOk h = true ∧ h ≠ 0 := by
 have hg : goodB (bkB ts) h = true := hg
 unfold goodB at hg
 rw [Bool.and_eq_true] at hg
 refine ⟨hg.1, fun e => ?_⟩
 have := hg.1
 unfold slotOk at this
 exact (of_decide_eq_true this).1 e
theorem JJ.say (J : JJ cs off k ts os) {r : Int} (hr : inH r) (hg : gdF ts r = true) (hs : sdB cs (off + k * 5) r = true) {kd t h : Int} (hk : 0 ≤ kd ∧ kd ≤ 3) (ht : 0 ≤ t ∧ t ≤ 255) (hh : 0 ≤ h ∧ h ≤ 255) (h1 : kd ≠ 1 → t = 0) (h3 : kd ≠ 3 → h = 0) : JJ cs off (k + 1) ts (sayT os r kd t h) := by
 obtain ⟨s1, s2⟩ := say_os (t := t) (h := h) J.o hr (kd := kd) ⟨hk.1, by omega⟩ ht hh
 refine ⟨J.v, s1, ⟨fun s q => ?_, fun s q => ?_, fun s q => ?_⟩, fun s q => ?_, fun s q => ?_⟩
 ·rw [(s2 s q).2.1]
  split
  ·exact hk.2
  ·exact J.n.k s q
 ·rw [(s2 s q).2.1, (s2 s q).2.2.2]
  split
  ·exact h3
  ·exact J.n.h s q
 ·rw [(s2 s q).2.1, (s2 s q).2.2.1]
  split
  ·exact h1
  ·exact J.n.t s q
 ·rw [(s2 s q).1]
  split
  ·exact .inr (used_good J.v.f.ok hg)
  ·exact J.u s q
 ·rw [(s2 s q).1]
  split
  ·exact fun _ => bf_now hs
  ·exact fun h0 => bf_mono (J.b s q h0)
theorem mr_0 {h : Int} (e : mrE ts h = 0) : gdF ts h = true ∧ rtF ts h = h := by
 unfold mrE at e
 split at e
 ·exact absurd e (by decide)
 ·rename_i c
  split at e
  ·rename_i d
   refine ⟨?_, d⟩
   cases g : gdF ts h with
   | true => rfl
   | false => exact absurd g c
  ·exact absurd e (by decide)
theorem gv_0 {h t : Int} (e : gvE ts h t = 0) : gdF ts h = true ∧ rtF ts h = h ∧ 0 ≤ t ∧ t < 8 := by
 unfold gvE at e
 split at e
 ·rename_i c; exact absurd e c
 ·rename_i c
  have := mr_0 (Decidable.not_not.1 c)
  exact ⟨this.1, this.2, mt_0 e⟩
theorem of_say (ho : OsOk os) {h : Int} (hr : inH h) (hg : gdF ts h = true) (er : rtF ts h = h) {kd t x : Int} (hk : 0 ≤ kd ∧ kd ≤ 255) (ht : 0 ≤ t ∧ t ≤ 255) (hx : 0 ≤ x ∧ x ≤ 255) : ofK (sayT os h kd t x) ts h = kd := by
 obtain ⟨s1, s2⟩ := say_os (t := t) (h := x) ho hr (kd := kd) hk ht hx
 have h32 := sl_32 hr
 obtain ⟨a, b, _⟩ := s2 (sl h) h32
 rw [if_pos rfl] at a b
 have c : isO (sayT os h kd t x) ts h = true := by
  unfold isO
  rw [er, (gd_slot hg).1, a, beq_self_eq_true]; rfl
 unfold ofK
 rw [if_pos c, er]
 exact b
theorem or_in (x y : Int) : 0 ≤ ari .or .u8 x y ∧ ari .or .u8 x y ≤ 255 := by rw [ari_or]; exact u8_w _
theorem shl_in (x y : Int) : 0 ≤ ari .shl .u8 x y ∧ ari .shl .u8 x y ≤ 255 := by rw [ari_shl]; exact u8_w _
theorem JJ.give (J : JJ cs off k ts os) {h : Int} (t : Int) (hr : inH h) (hs : sdB cs (off + k * 5) h = true) : JJ cs off (k + 1) ts (gvT os ts h t) ∧ (gvE ts h t = 0 → ofK (gvT os ts h t) ts h = 1) := by
 unfold gvT
 by_cases e : gvE ts h t = 0
 ·rw [if_pos e]
  obtain ⟨g, er, _⟩ := gv_0 e
  exact ⟨J.say hr g hs ⟨by decide, by decide⟩ (u8_w _) ⟨by decide, by decide⟩ (fun k => absurd rfl k) (fun _ => rfl), fun _ => of_say J.o hr g er ⟨by decide, by decide⟩ (u8_w _) ⟨by decide, by decide⟩⟩
 ·rw [if_neg e]
  exact ⟨J.same, fun k => absurd k e⟩
theorem JJ.freeze (J : JJ cs off k ts os) {h : Int} (t : Int) (hr : inH h) (hs : sdB cs (off + k * 5) h = true) : JJ cs off (k + 1) ts (frT os ts h t) ∧ (gvE ts h t = 0 → ofK (frT os ts h t) ts h = 3) := by
 unfold frT
 by_cases e : gvE ts h t = 0
 ·rw [if_pos e]
  obtain ⟨g, er, _⟩ := gv_0 e
  exact ⟨J.say hr g hs ⟨by decide, by decide⟩ ⟨by decide, by decide⟩ (shl_in _ _) (fun _ => rfl) (fun k => absurd rfl k), fun _ => of_say J.o hr g er ⟨by decide, by decide⟩ ⟨by decide, by decide⟩ (shl_in _ _)⟩
 ·rw [if_neg e]
  exact ⟨J.same, fun k => absurd k e⟩
theorem JJ.fly (J : JJ cs off k ts os) {h : Int} (hr : inH h) (hs : sdB cs (off + k * 5) h = true) : JJ cs off (k + 1) ts (fyT os ts h) := by
 unfold fyT
 by_cases e : mrE ts h = 0
 ·rw [if_pos e]
  exact J.say hr (mr_0 e).1 hs ⟨by decide, by decide⟩ ⟨by decide, by decide⟩ ⟨by decide, by decide⟩ (fun _ => rfl) (fun _ => rfl)
 ·rw [if_neg e]
  exact J.same
theorem hd_0 {h t : Int} (e : hdE os ts h t = 0) : mrE ts h = 0 ∧ ofK os ts h = 3 := by
 unfold hdE at e
 split at e
 ·rename_i c; exact absurd e c
 ·rename_i c
  split at e
  ·exact absurd e (by decide)
  ·rename_i d
   exact ⟨Decidable.not_not.1 c, Decidable.not_not.1 d⟩
theorem od_0 {h t : Int} (e : odE os ts h t = 0) : mrE ts h = 0 ∧ ofK os ts h = 3 := by
 unfold odE at e
 split at e
 ·rename_i c; exact absurd e c
 ·rename_i c
  split at e
  ·exact absurd e (by decide)
  ·rename_i d
   exact ⟨Decidable.not_not.1 c, Decidable.not_not.1 d⟩
theorem JJ.hold (J : JJ cs off k ts os) {h : Int} (t : Int) (hr : inH h) (hs : sdB cs (off + k * 5) h = true) : JJ cs off (k + 1) ts (hdT os ts h t) := by
 unfold hdT
 by_cases e : hdE os ts h t = 0
 ·rw [if_pos e]
  obtain ⟨e1, e2⟩ := hd_0 e
  rw [e2, J.n.tt h (by rw [e2]; decide)]
  exact J.say hr (mr_0 e1).1 hs ⟨by decide, by decide⟩ ⟨by decide, by decide⟩ (or_in _ _) (fun _ => rfl) (fun k => absurd rfl k)
 ·rw [if_neg e]
  exact J.same
theorem JJ.drop (J : JJ cs off k ts os) {h : Int} (t : Int) (hr : inH h) (hs : sdB cs (off + k * 5) h = true) : JJ cs off (k + 1) ts (odT os ts h t) := by
 unfold odT
 by_cases e : odE os ts h t = 0
 ·rw [if_pos e]
  obtain ⟨e1, e2⟩ := od_0 e
  rw [e2, J.n.tt h (by rw [e2]; decide)]
  exact J.say hr (mr_0 e1).1 hs ⟨by decide, by decide⟩ ⟨by decide, by decide⟩ (andN_in _ _) (fun _ => rfl) (fun k => absurd rfl k)
 ·rw [if_neg e]
  exact J.same
theorem drN_used : ∀ (o : List Int) {ts : Array Value}, TbOk ts → ∀ r, usedB (bkB ts) r → usedB (bkB (drN ts o)) r
 | [], ts, hb, r, h => h
 | y :: o, ts, hb, r, h => by
  show usedB (bkB (drN (dropT ts y) o)) r
  cases c : gdF ts y with
  | true =>
   have e : dropT ts y = drT ts y := if_pos c
   obtain ⟨r1, r2, _⟩ := drop_f hb c
   rw [e]
   exact drN_used o r1 r (by rw [r2]; exact used_void hb.bk h)
  | false =>
   have e : dropT ts y = ts := by unfold dropT; rw [c]; rfl
   rw [e]
   exact drN_used o hb r h
theorem JJ.fell (J : JJ cs off k ts os) {h : Int} (hg : gdF ts h = true) : JJ cs off (k + 1) (fellT ts h) os := J.keep (fell_f J.v hg).1 fun r hu => drN_used _ J.v.f.ok r hu
theorem JJ.cut (J : JJ cs off k ts os) (h : Int) : JJ cs off (k + 1) (cutT ts h) os ∧ (gdF ts h = true → ofK os (cutT ts h) h ≠ 0 → bfB cs off k h = true) := by
 cases hg : gdF ts h with
 | false =>
  have e : cutT ts h = ts := by unfold cutT; rw [hg]; rfl
  rw [e]
  exact ⟨J.same, fun k => by cases k⟩
 | true =>
  obtain ⟨c1, c2, c3⟩ := cut_f J.v hg
  refine ⟨J.keep c1 fun r hu => by rw [c2]; exact hu, fun _ h0 => ?_⟩
  have hl := (lv_mem J.v.f.ok).2 hg
  have hm : h ∈ UNL ts h := by rw [unl_cons J.v.f hl]; exact List.mem_cons_self ..
  have er := (c3 h hm).2.1
  unfold ofK at h0
  split at h0
  ·rename_i c
   have h32 := is_lt c
   unfold isO at c
   rw [er] at c h32
   rw [Bool.and_eq_true] at c
   have e := eq_of_beq c.2
   rw [← e]
   refine J.b _ h32 ?_
   rw [e]
   exact (gd_slot hg).2
  ·exact absurd rfl h0
theorem JJ.graft (J : JJ cs off k ts os) (h : Int) {u : Int} (hu : inH u) : JJ cs off (k + 1) (grT ts h u) os := by
 obtain ⟨g1, g2⟩ := graft_f (h := h) J.v hu
 by_cases e : grE ts h u = 0
 ·refine J.keep g1 fun r hr => ?_
  rw [(g2 e).2.2]; exact hr
 ·have e : grT ts h u = ts := by unfold grT; rw [if_neg e]
  rw [e]; exact J.same
theorem fn_0 {u q : Int} (e : fnE ts u q = 0) : 0 ≤ q ∧ q ≤ 64 ∧ issueOk (bkB ts) = true := by
 unfold fnE at e
 split at e
 ·exact absurd e (by decide)
 unfold newE at e
 split at e
 ·exact absurd e (by decide)
 split at e
 rotate_left
 ·exact absurd e (by decide)
 rename_i hq
 split at e
 rotate_left
 ·exact absurd e (by decide)
 rename_i ho
 exact ⟨hq.1, hq.2, ho⟩
theorem JJ.new (J : JJ cs off k ts os) {u q : Int} (hu : inH u) : JJ cs off (k + 1) (fnT ts u q) os ∧ (fnE ts u q = 0 → u = 0 → isO os (fnT ts u q) (fnI ts u q) = false) := by
 have hv := FV_new (q := q) J.v hu
 by_cases e : fnE ts u q = 0
 ·obtain ⟨q1, q2, ho⟩ := fn_0 e
  have hb := J.v.f.ok
  have eT : fnT ts u q = nwT ts u q := by unfold fnT; rw [if_pos e]
  have eI : fnI ts u q = issueI (bkB ts) := by unfold fnI; rw [if_pos e]
  obtain ⟨r1, r2, r3, r4, r5⟩ := nw_f hb ho (u := u) (q := q) hu ⟨q1, q2⟩
  refine ⟨J.keep hv fun r hr => ?_, fun _ h0 => ?_⟩
  ·rw [eT, r2]; exact used_issue hb.bk hr
  ·rw [eI, eT]
   rw [eT] at hv
   have g : gdF (nwT ts u q) (issueI (bkB ts)) = true := by rw [r3, decide_eq_true rfl, Bool.or_true]
   have hl := (lv_mem r1).2 g
   have hup : upF (nwT ts u q) (issueI (bkB ts)) = 0 := by
    unfold upF
    rw [if_pos g, r4.1, h0]
    split <;> rfl
   have er : rtF (nwT ts u q) (issueI (bkB ts)) = issueI (bkB ts) := by
    have : rtF (nwT ts u q) (issueI (bkB ts)) = rtL (upF (nwT ts u q)) (issueI (bkB ts)) := if_pos g
    rw [this]
    exact (rt_root hv.f.fo hl).2 hup
   unfold isO
   rw [er]
   have h32 := sl_32 (used_in (issue_bk hb.bk) (used_new hb.bk ho).1)
   have hne : (oR os (sl (issueI (bkB ts))) == issueI (bkB ts)) = false := beq_eq_false_iff_ne.2 fun k => by
    rcases J.u _ h32 with c | c
    ·exact (gd_slot g).2 (k.symm.trans c)
    ·rw [k] at c
     exact (used_new hb.bk ho).2 c
   rw [hne, Bool.and_false]
 ·have eT : fnT ts u q = ts := by unfold fnT; rw [if_neg e]
  rw [eT]
  exact ⟨J.same, fun k => absurd k e⟩
end
theorem zO_at : ∀ i, i < 32 → vEq (zO[i * 4]?) (some (.int .u32 0)) = true ∧ vEq (zO[i * 4 + 1]?) (some (.int .u8 0)) = true ∧ vEq (zO[i * 4 + 2]?) (some (.int .u8 0)) = true ∧ vEq (zO[i * 4 + 3]?) (some (.int .u8 0)) = true := by decide +kernel
theorem JJ_zero (cs : Array Value) (off : Nat) : JJ cs off 0 zT zO := by
 have a : ∀ s, s < 32 → OsIs zO (s * 4) ∧ oR zO s = 0 ∧ oK zO s = 0 ∧ oT zO s = 0 ∧ oH zO s = 0 := fun s hs => by
  obtain ⟨x0, x1, x2, x3⟩ := zO_at s hs
  have b0 := vEq_ok x0
  have b1 := vEq_ok x1
  have b2 := vEq_ok x2
  have b3 := vEq_ok x3
  refine ⟨⟨isI_of b0, isI_of b1, isI_of b2, isI_of b3, ?_, ?_, ?_, ?_⟩, intAt_of b0, intAt_of b1, intAt_of b2, intAt_of b3⟩
  ·rw [intAt_of b0]; exact ⟨by decide, by decide⟩
  ·rw [intAt_of b1]; exact ⟨by decide, by decide⟩
  ·rw [intAt_of b2]; exact ⟨by decide, by decide⟩
  ·rw [intAt_of b3]; exact ⟨by decide, by decide⟩
 refine ⟨FV_zero, ⟨zO_sz, fun s hs => (a s hs).1⟩, ⟨fun s hs => ?_, fun s hs _ => (a s hs).2.2.2.2, fun s hs _ => (a s hs).2.2.2.1⟩, fun s hs => .inl (a s hs).2.1, fun s hs h => absurd (a s hs).2.1 h⟩
 rw [(a s hs).2.2.1]; decide
end Go.Proofs.YtldoopjnjlpbpaaDoor
/- Of owns: the closed test. No condition. -/
namespace Go.Proofs.YtldoopjnjlpbpaaDoor
set_option maxRecDepth 1000000 in
theorem wakes_fast : (runC E0 200000 0 [callFr 4 Tryd.f4.ntmps [] (Tryd.f4.body.getD .skip)] ⟨0, .nil, []⟩).allTrue = true := by kernel_rfl
theorem wakes_true : (run E0 200000 0 [callFr 4 Tryd.f4.ntmps [] (Tryd.f4.body.getD .skip)] ⟨0, .nil, []⟩).allTrue = true := by
 rw [← runC_eq]
 exact wakes_fast
theorem wakes_fn : E0.fn 4 = some Tryd.f4 := by kernel_rfl
theorem wakes_body : Tryd.f4.body = some (Tryd.f4.body.getD .skip) := by kernel_rfl
theorem wakes_con (m : SMem) : Con E0 4 [] m (needs [] (.ret (sB (.l true)) m)) :=
 Con.pure E0_ok wakes_fn wakes_body (by kernel_rfl) (by kernel_rfl) fun _ => good_true E0_ok wakes_true
end Go.Proofs.YtldoopjnjlpbpaaDoor
/- Of owns: OwnOne: its runs end with true. No condition. -/
namespace Go.Proofs.YtldoopjnjlpbpaaDoor
set_option maxRecDepth 100000
set_option linter.unusedSimpArgs false
set_option linter.unusedVariables false
theorem conP4_ok : ∀ g l m t, conP4 g l m = some t → Con E0 g l m t := by
 intro g l m t h
 unfold conP4 at h
 split at h
 ·cases h; exact wakes_con m
 ·rename_i ts os; cases h
  refine Con.asked fun hq => Con.args (l' := [tbS ts, osS os]) (fun R vs ha => by
   match vs, ha with
   | [v, w], ha => exact ⟨ha.1, ha.2.1, trivial⟩) ?_
  intro A hs
  exact one_con m A ⟨fun p hp => hq p hp, hs⟩
 ·rename_i os ts h t; cases h
  refine Con.asked fun hq => Con.args (l' := [osS os, tbS ts, u32 h.den, i64 (.o t.den)]) (fun R vs ha => by
   match vs, ha with
   | [v, w, z, y], ha => exact ⟨ha.1, ha.2.1, ha.2.2.1, ha.2.2.2.1, trivial⟩) ?_
  intro A hs
  exact give_con h.den t.den m A ⟨fun p hp => hq p hp, hs⟩
 ·rename_i os ts h t; cases h
  refine Con.asked fun hq => Con.args (l' := [osS os, tbS ts, u32 h.den, i64 (.o t.den)]) (fun R vs ha => by
   match vs, ha with
   | [v, w, z, y], ha => exact ⟨ha.1, ha.2.1, ha.2.2.1, ha.2.2.2.1, trivial⟩) ?_
  intro A hs
  exact freeze_con h.den t.den m A ⟨fun p hp => hq p hp, hs⟩
 ·rename_i os ts h; cases h
  refine Con.asked fun hq => Con.args (l' := [osS os, tbS ts, u32 h.den]) (fun R vs ha => by
   match vs, ha with
   | [v, w, z], ha => exact ⟨ha.1, ha.2.1, ha.2.2.1, trivial⟩) ?_
  intro A hs
  exact fly_con h.den m A ⟨fun p hp => hq p hp, hs⟩
 ·rename_i os ts h t; cases h
  refine Con.asked fun hq => Con.args (l' := [osS os, tbS ts, u32 h.den, i64 (.o t.den)]) (fun R vs ha => by
   match vs, ha with
   | [v, w, z, y], ha => exact ⟨ha.1, ha.2.1, ha.2.2.1, ha.2.2.2.1, trivial⟩) ?_
  intro A hs
  exact ohold_con h.den t.den m A ⟨fun p hp => hq p hp, hs⟩
 ·rename_i os ts h t; cases h
  refine Con.asked fun hq => Con.args (l' := [osS os, tbS ts, u32 h.den, i64 (.o t.den)]) (fun R vs ha => by
   match vs, ha with
   | [v, w, z, y], ha => exact ⟨ha.1, ha.2.1, ha.2.2.1, ha.2.2.2.1, trivial⟩) ?_
  intro A hs
  exact odrop_con h.den t.den m A ⟨fun p hp => hq p hp, hs⟩
 ·exact conP3_ok _ _ _ _ h
theorem EL_ok : EnvOk EL := EnvOk.with E0_ok _ _ conP4_ok
theorem EW_ok : EnvOk EW := EnvOk.with E0_ok _ _ conP4_ok
section
variable {ts os : Array Value} {cs : Array Value} {off n : Nat} {ty : TypeId}
theorem pE_ok {i : Nat} (hi : i < 100) (J : JJ cs off (i + 1) ts os) (hL : Good Tryd.prog (isB true) 1 (pL_F off n cs ty ((i + 1 : Nat) : Int) ts os) (pL_M off n cs ty ((i + 1 : Nat) : Int) ts os)) : Good Tryd.prog (isB true) 1 (pE_F off n cs ty (i : Int) ts os) (pE_M off n cs ty (i : Int) ts os) := by
 have hf := J.v.f
 have hs := hf.ok.sz
 have ho := J.o
 have hos := ho.sz
 have hn := J.n
 refine past_vc EL_ok 1000 (vEF off n cs ty (i : Int) ts os (fun i' us o' => i' = ((i + 1 : Nat) : Int) ∧ us = ts ∧ o' = os)) ?_ (fun _ _ h => h) (fun fs m hb => vE_go (fun i' us o' ⟨e1, e2, e3⟩ => by rw [e1, e2, e3]; exact hL) hb)
 have ei : ari .add .i64 (i : Int) 1 = ((i + 1 : Nat) : Int) := by rw [ari_add, i64_in' (by omega) (by omega)]; omega
 simp only [ei, hs, hos, ho, hf, hn, true_implies, Bool.true_eq_false, Bool.false_eq_true, false_implies, and_true, true_and, pL_d0_ok]
theorem rounds (ha : ActsOk cs off n) (hn : n ≤ 100) : ∀ (m i : Nat) (ts os : Array Value), i + m = n → JJ cs off i ts os → Good Tryd.prog (isB true) 1 (pL_F off n cs ty (i : Int) ts os) (pL_M off n cs ty (i : Int) ts os) := by
 intro m
 induction m with
 | zero =>
  intro i ts os hi J
  obtain rfl : i = n := by omega
  refine past_vc EL_ok 1000 (vLF off i cs ty (i : Int) ts os (fun _ _ _ => False)) ?_ (fun _ _ h => h) (fun fs m hb => vL_go (fun _ _ _ h => h.elim) hb)
  have d : decide ((i : Int) < (i : Int)) = false := decide_eq_false (by omega)
  simp only [d, true_implies, Bool.true_eq_false, Bool.false_eq_true, false_implies, and_true, true_and]
 | succ m ih =>
  intro i ts os hi J
  have hv := J.v
  have hf := hv.f
  have hb := hf.ok
  have hs := hb.sz
  have ho := J.o
  have hos := ho.sz
  have hi' : i < n := by omega
  obtain ⟨a0, a1, a2, a3, a4, b0, b1, b2, b3⟩ := ha i hi'
  have next : ∀ us o', JJ cs off (i + 1) us o' → Good Tryd.prog (isB true) 1 (pE_F off n cs ty (i : Int) us o') (pE_M off n cs ty (i : Int) us o') := fun us o' hu => pE_ok (by omega) hu (ih (i + 1) us o' (by omega) hu)
  have hsd : intAt cs (off + i * 5) > 9 → sdB cs (off + i * 5) (intAt cs (off + i * 5 + 1)) = true := fun k => by
   unfold sdB
   rw [decide_eq_true k, beq_self_eq_true]; rfl
  have hpre : ActsOk cs off i := fun j hj => ha j (by omega)
  have d : decide ((i : Int) < (n : Int)) = true := decide_eq_true (by omega)
  have y0 : 0 ≤ (i : Int) := by omega
  have y1 : (i : Int) < (n : Int) := by omega
  have y2 : i ≤ n := by omega
  have y3 : i ≤ 1000 := by omega
  generalize eh : intAt cs (off + i * 5 + 1) = h at *
  generalize ed : intAt cs (off + i * 5) = dd at *
  generalize eb : intAt cs (off + i * 5 + 2) = bb at *
  generalize ec : intAt cs (off + i * 5 + 3) = cc at *
  generalize eq : intAt cs (off + i * 5 + 4) = qq at *
  refine past_vc EL_ok 1000 (vLF off n cs ty (i : Int) ts os (fun i' us o' => i' = (i : Int) ∧ JJ cs off (i + 1) us o')) ?_ (fun _ _ h => h) (fun fs m hb => vL_go (fun i' us o' ⟨e1, e2⟩ => by rw [e1]; exact next us o' e2) hb)
  have eh' : cA cs off (i : Int) = h := eh
  have ed' : cD cs off (i : Int) = dd := ed
  have eq' : cQ cs off (i : Int) = qq := eq
  simp only [Int.toNat_natCast, eh', ed', eq', eh, ed, eb, ec, eq]
  have b1' : 0 ≤ h ∧ h < 4294967296 := b1
  have b2' : 0 ≤ bb ∧ bb < 4294967296 := b2
  have JS := J.same
  cases d0 : (dd == 0) with
  | true =>
   cases hg : gdF ts h with
   | false =>
    have eU : unT ts h = [] := by unfold unT; rw [hg]; rfl
    have d2 : decide ((unT ts h).length = 0) = true := by rw [eU]; rfl
    simp only [d, d0, d2, a0, a1, a2, a3, a4, b1', y0, y1, hs, hf, JS, decide_true, true_implies, Bool.true_eq_false, Bool.false_eq_true, false_implies, and_true, true_and, pE_d0_ok]
   | true =>
    have hl := (lv_mem hb).2 hg
    have eU : unT ts h = UNL ts h := if_pos hg
    have d2 : decide ((unT ts h).length = 0) = false := by rw [eU, unl_cons hf hl]; rfl
    have hF := J.fell hg
    have hs2 := hF.v.f.ok.sz
    simp only [d, d0, d2, a0, a1, a2, a3, a4, b1', y0, y1, hs, hs2, hF, hf, decide_true, true_implies, Bool.true_eq_false, Bool.false_eq_true, false_implies, and_true, true_and, pE_d0_ok]
  | false =>
   cases d1 : (dd == 1) with
   | true =>
    obtain ⟨hF, hk⟩ := J.cut h
    have hs2 := hF.v.f.ok.sz
    have hf2 := hF.v.f
    have eg : goodB (Array.extract ts 0 64) h = gdF ts h := rfl
    have hbk : BkOk (Array.extract ts 0 64) := hb.bk
    have h64 : 64 ≤ ts.size := by omega
    cases c0 : gdF ts h with
    | false =>
     simp only [d, d0, d1, eg, c0, hbk, h64, a0, a1, a2, a3, a4, b1', y0, y1, hs, hs2, hF, hf, hf2, beqT, beqF, Nat.reduceLeDiff, Bool.not_true, Bool.not_false, decide_true, true_implies, Bool.true_eq_false, Bool.false_eq_true, false_implies, and_true, true_and, pE_d0_ok]
    | true =>
     cases c1 : (rtF ts h != h) with
     | false =>
      simp only [d, d0, d1, eg, c0, c1, hbk, h64, a0, a1, a2, a3, a4, b1', y0, y1, hs, hs2, hF, hf, hf2, beqT, beqF, Nat.reduceLeDiff, Bool.not_true, Bool.not_false, decide_true, true_implies, Bool.true_eq_false, Bool.false_eq_true, false_implies, and_true, true_and, pE_d0_ok]
     | true =>
      cases c2 : (ofK os (cutT ts h) h != 0) with
      | false =>
       simp only [d, d0, d1, eg, c0, c1, c2, hbk, h64, a0, a1, a2, a3, a4, b1', y0, y1, hs, hos, ho, hs2, hF, hf, hf2, beqT, beqF, Nat.reduceLeDiff, Bool.not_true, Bool.not_false, decide_true, true_implies, Bool.true_eq_false, Bool.false_eq_true, false_implies, and_true, true_and, pE_d0_ok]
      | true =>
       have c3 := hk c0 (bne_iff_ne.1 c2)
       simp only [d, d0, d1, eg, c0, c1, c2, c3, hpre, hbk, h64, a0, a1, a2, a3, a4, b1', y0, y1, y2, y3, hs, hos, ho, hs2, hF, hf, hf2, beqT, beqF, Nat.reduceLeDiff, Bool.not_true, Bool.not_false, decide_true, true_implies, Bool.true_eq_false, Bool.false_eq_true, false_implies, and_true, true_and, pE_d0_ok]
   | false =>
    cases d2 : (dd == 2) with
    | true =>
     have hF := J.graft h b2
     have hs2 := hF.v.f.ok.sz
     simp only [d, d0, d1, d2, a0, a1, a2, a3, a4, b1', b2', y0, y1, hs, hs2, hF, hf, decide_true, true_implies, Bool.true_eq_false, Bool.false_eq_true, false_implies, and_true, true_and, pE_d0_ok]
    | false =>
     cases d10 : (dd == 10) with
     | true =>
      have e10 : dd = 10 := eq_of_beq d10
      obtain ⟨hF, hk⟩ := J.give qq b1 (hsd (by omega))
      have hs2 := hF.o.sz
      have ho2 := hF.o
      cases e : (gvE ts h qq == 0) with
      | true =>
       have k0 := hk (eq_of_beq e)
       have k1 : (ofK (gvT os ts h qq) ts h == 1) = true := beq_iff_eq.2 k0
       have k2 : (ofK (gvT os ts h qq) ts h != 1) = false := by rw [k0]; rfl
       simp only [d, d0, d1, d2, d10, e, k1, k2, a0, a1, a2, a3, a4, b1', y0, y1, hs, hos, ho, hs2, ho2, hF, hf, beqT, beqF, beq_self_eq_true, Bool.not_true, Bool.not_false, decide_true, true_implies, Bool.true_eq_false, Bool.false_eq_true, false_implies, and_true, true_and, pE_d0_ok]
      | false =>
       simp only [d, d0, d1, d2, d10, e, a0, a1, a2, a3, a4, b1', y0, y1, hs, hos, ho, hs2, ho2, hF, hf, beqT, beqF, beq_self_eq_true, Bool.not_true, Bool.not_false, decide_true, true_implies, Bool.true_eq_false, Bool.false_eq_true, false_implies, and_true, true_and, pE_d0_ok]
     | false =>
      cases d12 : (dd == 12) with
      | true =>
       have e12 : dd = 12 := eq_of_beq d12
       obtain ⟨hF, hk⟩ := J.freeze qq b1 (hsd (by omega))
       have hs2 := hF.o.sz
       have ho2 := hF.o
       cases e : (gvE ts h qq == 0) with
       | true =>
        have k0 := hk (eq_of_beq e)
        have k1 : (ofK (frT os ts h qq) ts h == 1) = false := by rw [k0]; rfl
        have k2 : (ofK (frT os ts h qq) ts h != 1) = true := by rw [k0]; rfl
        have k3 : (ofK (frT os ts h qq) ts h != 3) = false := by rw [k0]; rfl
        simp only [d, d0, d1, d2, d10, d12, e, k1, k2, k3, a0, a1, a2, a3, a4, b1', y0, y1, hs, hos, ho, hs2, ho2, hF, hf, beqT, beqF, beq_self_eq_true, Bool.not_true, Bool.not_false, decide_true, true_implies, Bool.true_eq_false, Bool.false_eq_true, false_implies, and_true, true_and, pE_d0_ok]
       | false =>
        simp only [d, d0, d1, d2, d10, d12, e, a0, a1, a2, a3, a4, b1', y0, y1, hs, hos, ho, hs2, ho2, hF, hf, beqT, beqF, beq_self_eq_true, Bool.not_true, Bool.not_false, decide_true, true_implies, Bool.true_eq_false, Bool.false_eq_true, false_implies, and_true, true_and, pE_d0_ok]
      | false =>
       cases d11 : (dd == 11) with
       | true =>
        have e11 : dd = 11 := eq_of_beq d11
        have hF := J.fly b1 (hsd (by omega))
        have hs2 := hF.o.sz
        simp only [d, d0, d1, d2, d10, d12, d11, a0, a1, a2, a3, a4, b1', y0, y1, hs, hos, ho, hs2, hF, hf, decide_true, true_implies, Bool.true_eq_false, Bool.false_eq_true, false_implies, and_true, true_and, pE_d0_ok]
       | false =>
        cases d13 : (dd == 13) with
        | true =>
         have e13 : dd = 13 := eq_of_beq d13
         have hF := J.hold qq b1 (hsd (by omega))
         have hs2 := hF.o.sz
         simp only [d, d0, d1, d2, d10, d12, d11, d13, a0, a1, a2, a3, a4, b1', y0, y1, hs, hos, ho, hs2, hF, hf, decide_true, true_implies, Bool.true_eq_false, Bool.false_eq_true, false_implies, and_true, true_and, pE_d0_ok]
        | false =>
         cases d14 : (dd == 14) with
         | true =>
          have e14 : dd = 14 := eq_of_beq d14
          have hF := J.drop qq b1 (hsd (by omega))
          have hs2 := hF.o.sz
          simp only [d, d0, d1, d2, d10, d12, d11, d13, d14, a0, a1, a2, a3, a4, b1', y0, y1, hs, hos, ho, hs2, hF, hf, decide_true, true_implies, Bool.true_eq_false, Bool.false_eq_true, false_implies, and_true, true_and, pE_d0_ok]
         | false =>
          obtain ⟨hF, hk⟩ := J.new (q := qq) b1
          have hs2 := hF.v.f.ok.sz
          have hf2 := hF.v.f
          cases e : (fnE ts h qq == 0) with
          | false =>
           simp only [d, d0, d1, d2, d10, d12, d11, d13, d14, e, a0, a1, a2, a3, a4, b1', y0, y1, hs, hos, ho, hs2, hf2, hF, hf, beqT, beqF, decide_true, true_implies, Bool.true_eq_false, Bool.false_eq_true, false_implies, and_true, true_and, pE_d0_ok]
          | true =>
           cases z : (h == 0) with
           | false =>
            simp only [d, d0, d1, d2, d10, d12, d11, d13, d14, e, z, a0, a1, a2, a3, a4, b1', y0, y1, hs, hos, ho, hs2, hf2, hF, hf, beqT, beqF, decide_true, true_implies, Bool.true_eq_false, Bool.false_eq_true, false_implies, and_true, true_and, pE_d0_ok]
           | true =>
            have c := hk (eq_of_beq e) (eq_of_beq z)
            have k1 : (ofK os (fnT ts h qq) (fnI ts h qq) == 0) = true := by unfold ofK; rw [if_neg (by rw [c]; decide)]; rfl
            have k2 : (ofT os (fnT ts h qq) (fnI ts h qq) == 0) = true := by unfold ofT; rw [if_neg (by rw [c]; decide)]; rfl
            have k3 : (ofH os (fnT ts h qq) (fnI ts h qq) == 0) = true := by unfold ofH; rw [if_neg (by rw [c]; decide)]; rfl
            have hi1 : 0 ≤ fnI ts h qq ∧ fnI ts h qq < 4294967296 := by
             have eI : fnI ts h qq = issueI (bkB ts) := by unfold fnI; rw [if_pos (eq_of_beq e)]
             rw [eI]
             exact used_in (issue_bk hb.bk) (used_new hb.bk (fn_0 (eq_of_beq e)).2.2).1
            simp only [d, d0, d1, d2, d10, d12, d11, d13, d14, e, z, k1, k2, k3, hi1, a0, a1, a2, a3, a4, b1', y0, y1, hs, hos, ho, hs2, hf2, hF, hf, beqT, beqF, Bool.and_self, Bool.not_true, Bool.not_false, decide_true, true_implies, Bool.true_eq_false, Bool.false_eq_true, false_implies, and_true, true_and, pE_d0_ok]
theorem own_row (ha : ActsOk cs off n) : Good Tryd.prog (isB true) 1 [callFr 3 Tryd.f3.ntmps [acS off n] (Tryd.f3.body.getD .skip)] (mkM 1 [(0, ⟨.raw cs, ty, false⟩)]) := by
 refine run_vc EL_ok 1000 (v0F off n cs ty (fun i us o' => i = ((0 : Nat) : Int) ∧ us = zT ∧ o' = zO ∧ n ≤ 100)) ?_ (fun s m h => h) fun fs m hb => v0_go (fun i us o' ⟨e1, e2, e3, e4⟩ => by rw [e1, e2, e3]; exact rounds ha e4 n 0 zT zO (Nat.zero_add _) (JJ_zero cs off)) hb
 cases c : decide ((n : Int) > 100) with
 | true => simp only [c, true_implies, Bool.true_eq_false, false_implies, and_true]
 | false =>
  have c' := of_decide_eq_false c
  simp only [c, true_implies, Bool.false_eq_true, false_implies, and_true, true_and, pL_d0_ok]
  exact ⟨rfl, by omega⟩
theorem own_none : Good Tryd.prog (isB true) 1 [callFr 3 Tryd.f3.ntmps [eS] (Tryd.f3.body.getD .skip)] (mkM 1 []) := by
 refine run_vc EW_ok 1000 (vZF 0) ?_ (fun s m h => h) fun fs m hb => hb.elim
 first | trivial | rfl
end
end Go.Proofs.YtldoopjnjlpbpaaDoor
