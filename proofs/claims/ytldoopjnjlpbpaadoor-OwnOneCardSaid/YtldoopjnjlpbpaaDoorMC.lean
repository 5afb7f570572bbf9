/- Of forests: Graft: the walk's rounds, whatever marks are left. No condition. -/
import Derived.Test.YtldoopjnjlpbpaaDoorMB
set_option linter.unusedVariables false
set_option linter.unusedSimpArgs false
namespace Go.Proofs.YtldoopjnjlpbpaaDoor
set_option linter.unusedVariables false
def gVA_R (j : Nat) (ts : Array Value) (h : Int) (up : Int) (r : Nat) (ks : Array Value) (zz : Array Value) (n : Nat) (cs : Array Value) (o : Array Value) (e : Int) (QA : Array Value → Nat → Array Value → Prop) (QB : Int → Array Value → Nat → Array Value → Prop) : Prop :=
 ((((0 : Int) ≤ ari BinOp.sub IntKind.i64 (↑n : Int) (1 : Int) ∧ ari BinOp.sub IntKind.i64 (↑n : Int) (1 : Int) < (↑n : Int)) ∧ True) ∧ (IsInt IntKind.u32 cs ((0 : Nat) + Int.toNat (ari BinOp.sub IntKind.i64 (↑n : Int) (1 : Int)) * 1) ∧ True) ∧ ((0 : Int) ≤ ari BinOp.sub IntKind.i64 (↑n : Int) (1 : Int) ∧ Int.toNat (ari BinOp.sub IntKind.i64 (↑n : Int) (1 : Int)) ≤ n ∧ True) ∧ (Array.size ts = (448 : Nat) ∧ True) ∧ (FIn ts ∧ ((0 : Int) ≤ intAt cs ((0 : Nat) + Int.toNat (ari BinOp.sub IntKind.i64 (↑n : Int) (1 : Int)) * 1) ∧ intAt cs ((0 : Nat) + Int.toNat (ari BinOp.sub IntKind.i64 (↑n : Int) (1 : Int)) * 1) < (4294967296 : Int)) ∧ True) ∧ (Array.size ts = (448 : Nat) ∧ True) ∧ (FIn ts ∧ ((0 : Int) ≤ up ∧ up < (4294967296 : Int)) ∧ True) ∧ (decide (ari BinOp.add IntKind.i64 (↑(depF ts (intAt cs ((0 : Nat) + Int.toNat (ari BinOp.sub IntKind.i64 (↑n : Int) (1 : Int)) * 1))) : Int) (↑(depF ts up) : Int) > (6 : Int)) = true → (Array.size ts = (448 : Nat) ∧ True) ∧ (Array.size ts = (448 : Nat) ∧ Array.size ts = Array.size zz ∧ True) ∧ (Array.size ts = (448 : Nat) ∧ True) ∧ o = ts ∧ e = (8 : Int) ∧ True) ∧ (decide (ari BinOp.add IntKind.i64 (↑(depF ts (intAt cs ((0 : Nat) + Int.toNat (ari BinOp.sub IntKind.i64 (↑n : Int) (1 : Int)) * 1))) : Int) (↑(depF ts up) : Int) > (6 : Int)) = false → (Array.size ts = (448 : Nat) ∧ True) ∧ (TbOk ts ∧ ((0 : Int) ≤ intAt cs ((0 : Nat) + Int.toNat (ari BinOp.sub IntKind.i64 (↑n : Int) (1 : Int)) * 1) ∧ intAt cs ((0 : Nat) + Int.toNat (ari BinOp.sub IntKind.i64 (↑n : Int) (1 : Int)) * 1) < (4294967296 : Int)) ∧ True) ∧ (decide (List.length (kdF ts (intAt cs ((0 : Nat) + Int.toNat (ari BinOp.sub IntKind.i64 (↑n : Int) (1 : Int)) * 1))) = (0 : Nat)) = true → (decide ((↑(Int.toNat (ari BinOp.sub IntKind.i64 (↑n : Int) (1 : Int))) : Int) > (0 : Int)) = true → QA zz (Int.toNat (ari BinOp.sub IntKind.i64 (↑n : Int) (1 : Int))) cs ∧ CallKind.normal = CallKind.normal ∧ TodoOk (ren 0 ([(0, 0), (1, 1), (2, 2), (3, 3), (4, 4), (6, 6), (7, 7), (8, 8), (9, 9)] ++ (20 + j, 61) :: idZ j)) gA_d0 gA_d0 ∧ CallKind.normal = CallKind.normal ∧ TodoOk (ren 0 ([(0, 0), (1, 1), (2, 2), (3, 3), (4, 4), (6, 6), (7, 7), (8, 8), (9, 9)] ++ (20 + j, 61) :: idZ j)) gA_d1 gA_d1 ∧ h = h ∧ (39 : TypeId) = (39 : TypeId) ∧ ts = ts ∧ (30 : TypeId) = (30 : TypeId) ∧ up = up ∧ (50 : TypeId) = (50 : TypeId) ∧ (49 : TypeId) = (49 : TypeId) ∧ Int.toNat (ari BinOp.sub IntKind.i64 (↑n : Int) (1 : Int)) = Int.toNat (ari BinOp.sub IntKind.i64 (↑n : Int) (1 : Int)) ∧ (39 : TypeId) = (39 : TypeId) ∧ zz = zz ∧ (39 : TypeId) = (39 : TypeId) ∧ ts = ts ∧ (30 : TypeId) = (30 : TypeId) ∧ cs = cs ∧ EqL gLp gLp ∧ h = h ∧ True) ∧ (decide ((↑(Int.toNat (ari BinOp.sub IntKind.i64 (↑n : Int) (1 : Int))) : Int) > (0 : Int)) = false → (Array.size ts = (448 : Nat) ∧ True) ∧ (FIn ts ∧ ((0 : Int) ≤ h ∧ h < (4294967296 : Int)) ∧ ((0 : Int) ≤ up ∧ up < (4294967296 : Int)) ∧ True) ∧ (Array.size (raT ts h up) = (448 : Nat) ∧ Array.size (raT ts h up) = Array.size zz ∧ True) ∧ (Array.size (raT ts h up) = (448 : Nat) ∧ True) ∧ o = raT ts h up ∧ e = raE ts h up ∧ True)) ∧ (decide (List.length (kdF ts (intAt cs ((0 : Nat) + Int.toNat (ari BinOp.sub IntKind.i64 (↑n : Int) (1 : Int)) * 1))) = (0 : Nat)) = false → (decide (ari BinOp.sub IntKind.i64 (↑(List.length (kdF ts (intAt cs ((0 : Nat) + Int.toNat (ari BinOp.sub IntKind.i64 (↑n : Int) (1 : Int)) * 1)))) : Int) (1 : Int) ≥ (0 : Int)) = true → QB (ari BinOp.sub IntKind.i64 (↑(List.length (kdF ts (intAt cs ((0 : Nat) + Int.toNat (ari BinOp.sub IntKind.i64 (↑n : Int) (1 : Int)) * 1)))) : Int) (1 : Int)) zz (Int.toNat (ari BinOp.sub IntKind.i64 (↑n : Int) (1 : Int))) cs ∧ CallKind.normal = CallKind.normal ∧ TodoOk (ren 0 ([(0, 0), (1, 1), (2, 2), (3, 3), (4, 4), (6, 6), (7, 7), (8, 8), (9, 9), (60, 60), (61, 61), (63, 63)] ++ (20 + j, 62) :: idZ j)) gB_d0 gB_d0 ∧ ari BinOp.sub IntKind.i64 (↑(List.length (kdF ts (intAt cs ((0 : Nat) + Int.toNat (ari BinOp.sub IntKind.i64 (↑n : Int) (1 : Int)) * 1)))) : Int) (1 : Int) = ari BinOp.sub IntKind.i64 (↑(List.length (kdF ts (intAt cs ((0 : Nat) + Int.toNat (ari BinOp.sub IntKind.i64 (↑n : Int) (1 : Int)) * 1)))) : Int) (1 : Int) ∧ CallKind.normal = CallKind.normal ∧ TodoOk (ren 0 ([(0, 0), (1, 1), (2, 2), (3, 3), (4, 4), (6, 6), (7, 7), (8, 8), (9, 9), (60, 60), (61, 61), (63, 63)] ++ (20 + j, 62) :: idZ j)) gB_d1 gB_d1 ∧ CallKind.normal = CallKind.normal ∧ TodoOk (ren 0 ([(0, 0), (1, 1), (2, 2), (3, 3), (4, 4), (6, 6), (7, 7), (8, 8), (9, 9), (60, 60), (61, 61), (63, 63)] ++ (20 + j, 62) :: idZ j)) gA_d1 gA_d1 ∧ h = h ∧ (39 : TypeId) = (39 : TypeId) ∧ ts = ts ∧ (30 : TypeId) = (30 : TypeId) ∧ up = up ∧ (50 : TypeId) = (50 : TypeId) ∧ (49 : TypeId) = (49 : TypeId) ∧ Int.toNat (ari BinOp.sub IntKind.i64 (↑n : Int) (1 : Int)) = Int.toNat (ari BinOp.sub IntKind.i64 (↑n : Int) (1 : Int)) ∧ (49 : TypeId) = (49 : Nat) ∧ r = List.length (kdF ts (intAt cs ((0 : Nat) + Int.toNat (ari BinOp.sub IntKind.i64 (↑n : Int) (1 : Int)) * 1))) ∧ (39 : TypeId) = (39 : TypeId) ∧ zz = zz ∧ (39 : TypeId) = (39 : TypeId) ∧ ts = ts ∧ (30 : TypeId) = (30 : TypeId) ∧ cs = cs ∧ (30 : TypeId) = (30 : TypeId) ∧ ks = u32s (kdF ts (intAt cs ((0 : Nat) + Int.toNat (ari BinOp.sub IntKind.i64 (↑n : Int) (1 : Int)) * 1))) ∧ EqL gLp gLp ∧ h = h ∧ EqL wkLp wkLp ∧ True) ∧ (decide (ari BinOp.sub IntKind.i64 (↑(List.length (kdF ts (intAt cs ((0 : Nat) + Int.toNat (ari BinOp.sub IntKind.i64 (↑n : Int) (1 : Int)) * 1)))) : Int) (1 : Int) ≥ (0 : Int)) = false → (decide ((↑(Int.toNat (ari BinOp.sub IntKind.i64 (↑n : Int) (1 : Int))) : Int) > (0 : Int)) = true → QA zz (Int.toNat (ari BinOp.sub IntKind.i64 (↑n : Int) (1 : Int))) cs ∧ CallKind.normal = CallKind.normal ∧ TodoOk (ren 0 ([(0, 0), (1, 1), (2, 2), (3, 3), (4, 4), (6, 6), (7, 7), (8, 8), (9, 9)] ++ (20 + j, 62) :: idZ j)) gA_d0 gA_d0 ∧ CallKind.normal = CallKind.normal ∧ TodoOk (ren 0 ([(0, 0), (1, 1), (2, 2), (3, 3), (4, 4), (6, 6), (7, 7), (8, 8), (9, 9)] ++ (20 + j, 62) :: idZ j)) gA_d1 gA_d1 ∧ h = h ∧ (39 : TypeId) = (39 : TypeId) ∧ ts = ts ∧ (30 : TypeId) = (30 : TypeId) ∧ up = up ∧ (50 : TypeId) = (50 : TypeId) ∧ (49 : TypeId) = (49 : TypeId) ∧ Int.toNat (ari BinOp.sub IntKind.i64 (↑n : Int) (1 : Int)) = Int.toNat (ari BinOp.sub IntKind.i64 (↑n : Int) (1 : Int)) ∧ (39 : TypeId) = (39 : TypeId) ∧ zz = zz ∧ (39 : TypeId) = (39 : TypeId) ∧ ts = ts ∧ (30 : TypeId) = (30 : TypeId) ∧ cs = cs ∧ EqL gLp gLp ∧ h = h ∧ True) ∧ (decide ((↑(Int.toNat (ari BinOp.sub IntKind.i64 (↑n : Int) (1 : Int))) : Int) > (0 : Int)) = false → (Array.size ts = (448 : Nat) ∧ True) ∧ (FIn ts ∧ ((0 : Int) ≤ h ∧ h < (4294967296 : Int)) ∧ ((0 : Int) ≤ up ∧ up < (4294967296 : Int)) ∧ True) ∧ (Array.size (raT ts h up) = (448 : Nat) ∧ Array.size (raT ts h up) = Array.size zz ∧ True) ∧ (Array.size (raT ts h up) = (448 : Nat) ∧ True) ∧ o = raT ts h up ∧ e = raE ts h up ∧ True)))))
theorem gVA_all : ∀ j, j < 33 → ∀ (ts : Array Value) (h : Int) (up : Int) (r : Nat) (ks : Array Value) (zz : Array Value) (n : Nat) (cs : Array Value) (o : Array Value) (e : Int) (QA : Array Value → Nat → Array Value → Prop) (QB : Int → Array Value → Nat → Array Value → Prop), (stepT Egn.go (run Egn 1000) 0 (gA_F j ts h up zz n cs) (gA_M j ts h up zz n cs)).vc (retOk 0 [] (rgS o e) e0M) (gAB j ts h up r ks QA QB) = gVA_R j ts h up r ks zz n cs o e QA QB
 | 0, _ => fun ts h up r ks zz n cs o e QA QB => by kernel_rfl
 | 1, _ => fun ts h up r ks zz n cs o e QA QB => by kernel_rfl
 | 2, _ => fun ts h up r ks zz n cs o e QA QB => by kernel_rfl
 | 3, _ => fun ts h up r ks zz n cs o e QA QB => by kernel_rfl
 | 4, _ => fun ts h up r ks zz n cs o e QA QB => by kernel_rfl
 | 5, _ => fun ts h up r ks zz n cs o e QA QB => by kernel_rfl
 | 6, _ => fun ts h up r ks zz n cs o e QA QB => by kernel_rfl
 | 7, _ => fun ts h up r ks zz n cs o e QA QB => by kernel_rfl
 | 8, _ => fun ts h up r ks zz n cs o e QA QB => by kernel_rfl
 | 9, _ => fun ts h up r ks zz n cs o e QA QB => by kernel_rfl
 | 10, _ => fun ts h up r ks zz n cs o e QA QB => by kernel_rfl
 | 11, _ => fun ts h up r ks zz n cs o e QA QB => by kernel_rfl
 | 12, _ => fun ts h up r ks zz n cs o e QA QB => by kernel_rfl
 | 13, _ => fun ts h up r ks zz n cs o e QA QB => by kernel_rfl
 | 14, _ => fun ts h up r ks zz n cs o e QA QB => by kernel_rfl
 | 15, _ => fun ts h up r ks zz n cs o e QA QB => by kernel_rfl
 | 16, _ => fun ts h up r ks zz n cs o e QA QB => by kernel_rfl
 | 17, _ => fun ts h up r ks zz n cs o e QA QB => by kernel_rfl
 | 18, _ => fun ts h up r ks zz n cs o e QA QB => by kernel_rfl
 | 19, _ => fun ts h up r ks zz n cs o e QA QB => by kernel_rfl
 | 20, _ => fun ts h up r ks zz n cs o e QA QB => by kernel_rfl
 | 21, _ => fun ts h up r ks zz n cs o e QA QB => by kernel_rfl
 | 22, _ => fun ts h up r ks zz n cs o e QA QB => by kernel_rfl
 | 23, _ => fun ts h up r ks zz n cs o e QA QB => by kernel_rfl
 | 24, _ => fun ts h up r ks zz n cs o e QA QB => by kernel_rfl
 | 25, _ => fun ts h up r ks zz n cs o e QA QB => by kernel_rfl
 | 26, _ => fun ts h up r ks zz n cs o e QA QB => by kernel_rfl
 | 27, _ => fun ts h up r ks zz n cs o e QA QB => by kernel_rfl
 | 28, _ => fun ts h up r ks zz n cs o e QA QB => by kernel_rfl
 | 29, _ => fun ts h up r ks zz n cs o e QA QB => by kernel_rfl
 | 30, _ => fun ts h up r ks zz n cs o e QA QB => by kernel_rfl
 | 31, _ => fun ts h up r ks zz n cs o e QA QB => by kernel_rfl
 | 32, _ => fun ts h up r ks zz n cs o e QA QB => by kernel_rfl
 | n + 33, h => by omega
def gVB_R (j : Nat) (ts : Array Value) (h : Int) (up : Int) (r : Nat) (ks : Array Value) (i : Int) (zz : Array Value) (n : Nat) (cs : Array Value) (o : Array Value) (e : Int) (QA : Array Value → Nat → Array Value → Prop) (QB : Int → Array Value → Nat → Array Value → Prop) : Prop :=
 ((((0 : Int) ≤ i ∧ i < (↑r : Int)) ∧ True) ∧ (IsInt IntKind.u32 ks ((0 : Nat) + Int.toNat i * 1) ∧ True) ∧ (((n + 1) * 4 ≤ (140737488355328 : Nat) ∧ n + 1 ≤ (140737488355328 : Nat)) ∧ n * 1 ≤ Array.size cs ∧ True) ∧ (decide (ari BinOp.sub IntKind.i64 i (1 : Int) ≥ (0 : Int)) = true → QB (ari BinOp.sub IntKind.i64 i (1 : Int)) zz (n + 1) (Array.extract cs (0 : Nat) (n * 1) ++ #[Value.int IntKind.u32 (intAt ks ((0 : Nat) + Int.toNat i * 1))]) ∧ CallKind.normal = CallKind.normal ∧ TodoOk (ren 0 ([(0, 0), (1, 1), (2, 2), (3, 3), (4, 4), (6, 6), (7, 7), (8, 65), (9, 9), (60, 60), (61, 61), (63, 63)] ++ idZ (j + 1))) gB_d0 gB_d0 ∧ ari BinOp.sub IntKind.i64 i (1 : Int) = ari BinOp.sub IntKind.i64 i (1 : Int) ∧ CallKind.normal = CallKind.normal ∧ TodoOk (ren 0 ([(0, 0), (1, 1), (2, 2), (3, 3), (4, 4), (6, 6), (7, 7), (8, 65), (9, 9), (60, 60), (61, 61), (63, 63)] ++ idZ (j + 1))) gB_d1 gB_d1 ∧ CallKind.normal = CallKind.normal ∧ TodoOk (ren 0 ([(0, 0), (1, 1), (2, 2), (3, 3), (4, 4), (6, 6), (7, 7), (8, 65), (9, 9), (60, 60), (61, 61), (63, 63)] ++ idZ (j + 1))) gA_d1 gA_d1 ∧ h = h ∧ (39 : TypeId) = (39 : TypeId) ∧ ts = ts ∧ (30 : TypeId) = (30 : TypeId) ∧ up = up ∧ (50 : TypeId) = (50 : TypeId) ∧ (49 : TypeId) = (49 : TypeId) ∧ n + 1 = n + 1 ∧ (49 : TypeId) = (49 : TypeId) ∧ r = r ∧ (39 : TypeId) = (39 : TypeId) ∧ zz = zz ∧ (39 : TypeId) = (39 : TypeId) ∧ ts = ts ∧ (30 : TypeId) = (30 : Nat) ∧ Array.extract cs (0 : Nat) (n * 1) ++ #[Value.int IntKind.u32 (intAt ks ((0 : Nat) + Int.toNat i * 1))] = Array.extract cs (0 : Nat) (n * 1) ++ #[Value.int IntKind.u32 (intAt ks ((0 : Nat) + Int.toNat i * 1))] ∧ (30 : TypeId) = (30 : TypeId) ∧ ks = ks ∧ EqL gLp gLp ∧ h = h ∧ EqL wkLp wkLp ∧ True) ∧ (decide (ari BinOp.sub IntKind.i64 i (1 : Int) ≥ (0 : Int)) = false → (decide ((↑(n + 1) : Int) > (0 : Int)) = true → QA zz (n + 1) (Array.extract cs (0 : Nat) (n * 1) ++ #[Value.int IntKind.u32 (intAt ks ((0 : Nat) + Int.toNat i * 1))]) ∧ CallKind.normal = CallKind.normal ∧ TodoOk (ren 0 ([(0, 0), (1, 1), (2, 2), (3, 3), (4, 4), (6, 6), (7, 7), (8, 65), (9, 9)] ++ idZ (j + 1))) gA_d0 gA_d0 ∧ CallKind.normal = CallKind.normal ∧ TodoOk (ren 0 ([(0, 0), (1, 1), (2, 2), (3, 3), (4, 4), (6, 6), (7, 7), (8, 65), (9, 9)] ++ idZ (j + 1))) gA_d1 gA_d1 ∧ h = h ∧ (39 : TypeId) = (39 : TypeId) ∧ ts = ts ∧ (30 : TypeId) = (30 : TypeId) ∧ up = up ∧ (50 : TypeId) = (50 : TypeId) ∧ (49 : TypeId) = (49 : TypeId) ∧ n + 1 = n + 1 ∧ (39 : TypeId) = (39 : TypeId) ∧ zz = zz ∧ (39 : TypeId) = (39 : TypeId) ∧ ts = ts ∧ (30 : TypeId) = (30 : Nat) ∧ Array.extract cs (0 : Nat) (n * 1) ++ #[Value.int IntKind.u32 (intAt ks ((0 : Nat) + Int.toNat i * 1))] = Array.extract cs (0 : Nat) (n * 1) ++ #[Value.int IntKind.u32 (intAt ks ((0 : Nat) + Int.toNat i * 1))] ∧ EqL gLp gLp ∧ h = h ∧ True) ∧ (decide ((↑(n + 1) : Int) > (0 : Int)) = false → (Array.size ts = (448 : Nat) ∧ True) ∧ (FIn ts ∧ ((0 : Int) ≤ h ∧ h < (4294967296 : Int)) ∧ ((0 : Int) ≤ up ∧ up < (4294967296 : Int)) ∧ True) ∧ (Array.size (raT ts h up) = (448 : Nat) ∧ Array.size (raT ts h up) = Array.size zz ∧ True) ∧ (Array.size (raT ts h up) = (448 : Nat) ∧ True) ∧ o = raT ts h up ∧ e = raE ts h up ∧ True)))
theorem gVB_all : ∀ j, j < 33 → ∀ (ts : Array Value) (h : Int) (up : Int) (r : Nat) (ks : Array Value) (i : Int) (zz : Array Value) (n : Nat) (cs : Array Value) (o : Array Value) (e : Int) (QA : Array Value → Nat → Array Value → Prop) (QB : Int → Array Value → Nat → Array Value → Prop), (stepT Egn.go (run Egn 1000) 0 (gB_F j ts h up r ks i zz n cs) (gB_M j ts h up r ks i zz n cs)).vc (retOk 0 [] (rgS o e) e0M) (gAB j ts h up r ks QA QB) = gVB_R j ts h up r ks i zz n cs o e QA QB
 | 0, _ => fun ts h up r ks i zz n cs o e QA QB => by kernel_rfl
 | 1, _ => fun ts h up r ks i zz n cs o e QA QB => by kernel_rfl
 | 2, _ => fun ts h up r ks i zz n cs o e QA QB => by kernel_rfl
 | 3, _ => fun ts h up r ks i zz n cs o e QA QB => by kernel_rfl
 | 4, _ => fun ts h up r ks i zz n cs o e QA QB => by kernel_rfl
 | 5, _ => fun ts h up r ks i zz n cs o e QA QB => by kernel_rfl
 | 6, _ => fun ts h up r ks i zz n cs o e QA QB => by kernel_rfl
 | 7, _ => fun ts h up r ks i zz n cs o e QA QB => by kernel_rfl
 | 8, _ => fun ts h up r ks i zz n cs o e QA QB => by kernel_rfl
 | 9, _ => fun ts h up r ks i zz n cs o e QA QB => by kernel_rfl
 | 10, _ => fun ts h up r ks i zz n cs o e QA QB => by kernel_rfl
 | 11, _ => fun ts h up r ks i zz n cs o e QA QB => by kernel_rfl
 | 12, _ => fun ts h up r ks i zz n cs o e QA QB => by kernel_rfl
 | 13, _ => fun ts h up r ks i zz n cs o e QA QB => by kernel_rfl
 | 14, _ => fun ts h up r ks i zz n cs o e QA QB => by kernel_rfl
 | 15, _ => fun ts h up r ks i zz n cs o e QA QB => by kernel_rfl
 | 16, _ => fun ts h up r ks i zz n cs o e QA QB => by kernel_rfl
 | 17, _ => fun ts h up r ks i zz n cs o e QA QB => by kernel_rfl
 | 18, _ => fun ts h up r ks i zz n cs o e QA QB => by kernel_rfl
 | 19, _ => fun ts h up r ks i zz n cs o e QA QB => by kernel_rfl
 | 20, _ => fun ts h up r ks i zz n cs o e QA QB => by kernel_rfl
 | 21, _ => fun ts h up r ks i zz n cs o e QA QB => by kernel_rfl
 | 22, _ => fun ts h up r ks i zz n cs o e QA QB => by kernel_rfl
 | 23, _ => fun ts h up r ks i zz n cs o e QA QB => by kernel_rfl
 | 24, _ => fun ts h up r ks i zz n cs o e QA QB => by kernel_rfl
 | 25, _ => fun ts h up r ks i zz n cs o e QA QB => by kernel_rfl
 | 26, _ => fun ts h up r ks i zz n cs o e QA QB => by kernel_rfl
 | 27, _ => fun ts h up r ks i zz n cs o e QA QB => by kernel_rfl
 | 28, _ => fun ts h up r ks i zz n cs o e QA QB => by kernel_rfl
 | 29, _ => fun ts h up r ks i zz n cs o e QA QB => by kernel_rfl
 | 30, _ => fun ts h up r ks i zz n cs o e QA QB => by kernel_rfl
 | 31, _ => fun ts h up r ks i zz n cs o e QA QB => by kernel_rfl
 | 32, _ => fun ts h up r ks i zz n cs o e QA QB => by kernel_rfl
 | n + 33, h => by omega
end Go.Proofs.YtldoopjnjlpbpaaDoor
/- Of forests: Cut: the walk: states. -/
namespace Go.Proofs.YtldoopjnjlpbpaaDoor
set_option maxRecDepth 100000
theorem cV0 (ts : Array Value) (h : Int) (u0 : Array Value) (r : Nat) (ks o : Array Value) (e : Int) (Q : Int → Array Value → Array Value → Prop) : (cT0 ts h).vc (retOk 0 [] (rgS o e) e0M) (cI_n ts h u0 r ks Q) =
  ((Array.size ts = (448 : Nat) ∧ True) ∧ (FIn ts ∧ ((0 : Int) ≤ h ∧ h < (4294967296 : Int)) ∧ ((0 : Int) ≤ (0 : Int) ∧ (0 : Int) < (4294967296 : Int)) ∧ True) ∧ (Array.size (raT ts h (0 : Int)) = (448 : Nat) ∧ Array.size (raT ts h (0 : Int)) = (448 : Nat) ∧ True) ∧ ((raE ts h (0 : Int) != (0 : Int)) = true → (Array.size ts = (448 : Nat) ∧ True) ∧ (Array.size ts = (448 : Nat) ∧ Array.size ts = (448 : Nat) ∧ True) ∧ (Array.size ts = (448 : Nat) ∧ True) ∧ o = ts ∧ e = raE ts h (0 : Int) ∧ True) ∧ ((raE ts h (0 : Int) != (0 : Int)) = false → (Array.size (raT ts h (0 : Int)) = (448 : Nat) ∧ True) ∧ ((64 : Nat) ≤ Array.size (raT ts h (0 : Int)) ∧ True) ∧ (BkOk (Array.extract (raT ts h (0 : Int)) (0 : Nat) (64 : Nat)) ∧ ((0 : Int) ≤ h ∧ h < (4294967296 : Int)) ∧ True) ∧ ((!goodB (Array.extract (raT ts h (0 : Int)) (0 : Nat) (64 : Nat)) h) = true → (Array.size (raT ts h (0 : Int)) = (448 : Nat) ∧ True) ∧ (Array.size (raT ts h (0 : Int)) = (448 : Nat) ∧ Array.size (raT ts h (0 : Int)) = (448 : Nat) ∧ True) ∧ (Array.size (raT ts h (0 : Int)) = (448 : Nat) ∧ True) ∧ o = raT ts h (0 : Int) ∧ e = (0 : Int) ∧ True) ∧ ((!goodB (Array.extract (raT ts h (0 : Int)) (0 : Nat) (64 : Nat)) h) = false → (Array.size (raT ts h (0 : Int)) = (448 : Nat) ∧ True) ∧ (TbOk (raT ts h (0 : Int)) ∧ gdF (raT ts h (0 : Int)) h = true ∧ FIn ts ∧ ((0 : Int) ≤ h ∧ h < (4294967296 : Int)) ∧ True) ∧ (Array.size (emT (raT ts h (0 : Int)) ts h h) = (448 : Nat) ∧ Array.size (emT (raT ts h (0 : Int)) ts h h) = Array.size (raT ts h (0 : Int)) ∧ True) ∧ (Array.size (raT ts h (0 : Int)) = (448 : Nat) ∧ True) ∧ (TbOk (raT ts h (0 : Int)) ∧ ((0 : Int) ≤ h ∧ h < (4294967296 : Int)) ∧ True) ∧ (decide (List.length (kdF (raT ts h (0 : Int)) h) = (0 : Nat)) = true → (Array.size (emT (raT ts h (0 : Int)) ts h h) = (448 : Nat) ∧ True) ∧ (Array.size (emT (raT ts h (0 : Int)) ts h h) = (448 : Nat) ∧ Array.size (emT (raT ts h (0 : Int)) ts h h) = (448 : Nat) ∧ True) ∧ (Array.size (emT (raT ts h (0 : Int)) ts h h) = (448 : Nat) ∧ True) ∧ o = emT (raT ts h (0 : Int)) ts h h ∧ e = (0 : Int) ∧ True) ∧ (decide (List.length (kdF (raT ts h (0 : Int)) h) = (0 : Nat)) = false → (decide (ari BinOp.sub IntKind.i64 (↑(List.length (kdF (raT ts h (0 : Int)) h)) : Int) (1 : Int) ≥ (0 : Int)) = true → Q (ari BinOp.sub IntKind.i64 (↑(List.length (kdF (raT ts h (0 : Int)) h)) : Int) (1 : Int)) (emT (raT ts h (0 : Int)) ts h h) zT ∧ CallKind.normal = CallKind.normal ∧ TodoOk (ren 0 [(0, 0), (1, 1), (2, 2), (3, 3), (4, 4), (5, 5), (7, 7), (8, 8), (9, 9), (10, 10), (11, 11), (12, 12), (13, 13), (14, 14)]) cB_d0 cB_d0 ∧ ari BinOp.sub IntKind.i64 (↑(List.length (kdF (raT ts h (0 : Int)) h)) : Int) (1 : Int) = ari BinOp.sub IntKind.i64 (↑(List.length (kdF (raT ts h (0 : Int)) h)) : Int) (1 : Int) ∧ CallKind.normal = CallKind.normal ∧ TodoOk (ren 0 [(0, 0), (1, 1), (2, 2), (3, 3), (4, 4), (5, 5), (7, 7), (8, 8), (9, 9), (10, 10), (11, 11), (12, 12), (13, 13), (14, 14)]) cI_d1 cI_d1 ∧ CallKind.normal = CallKind.normal ∧ TodoOk (ren 0 [(0, 0), (1, 1), (2, 2), (3, 3), (4, 4), (5, 5), (7, 7), (8, 8), (9, 9), (10, 10), (11, 11), (12, 12), (13, 13), (14, 14)]) cA_d1 cA_d1 ∧ (39 : TypeId) = (39 : Nat) ∧ ts = ts ∧ (30 : TypeId) = (30 : Nat) ∧ h = h ∧ (39 : TypeId) = (39 : Nat) ∧ emT (raT ts h (0 : Int)) ts h h = emT (raT ts h (0 : Int)) ts h h ∧ (30 : TypeId) = (30 : TypeId) ∧ ks = u32s (kdF (raT ts h (0 : Int)) h) ∧ (39 : TypeId) = (39 : Nat) ∧ u0 = raT ts h (0 : Int) ∧ (30 : TypeId) = (30 : Nat) ∧ h = h ∧ (39 : TypeId) = (39 : Nat) ∧ zT = zT ∧ (55 : TypeId) = (55 : Nat) ∧ Fn.func (24 : Nat) = Fn.func (24 : Nat) ∧ (49 : TypeId) = (49 : Nat) ∧ r = List.length (kdF (raT ts h (0 : Int)) h) ∧ (49 : TypeId) = (49 : Nat) ∧ EqL cLp cLp ∧ EqL wkLp wkLp ∧ True) ∧ (decide (ari BinOp.sub IntKind.i64 (↑(List.length (kdF (raT ts h (0 : Int)) h)) : Int) (1 : Int) ≥ (0 : Int)) = false → (Array.size (emT (raT ts h (0 : Int)) ts h h) = (448 : Nat) ∧ True) ∧ (Array.size (emT (raT ts h (0 : Int)) ts h h) = (448 : Nat) ∧ Array.size (emT (raT ts h (0 : Int)) ts h h) = (448 : Nat) ∧ True) ∧ (Array.size (emT (raT ts h (0 : Int)) ts h h) = (448 : Nat) ∧ True) ∧ o = emT (raT ts h (0 : Int)) ts h h ∧ e = (0 : Int) ∧ True))))) := by kernel_rfl
theorem cVI (ts : Array Value) (h : Int) (u0 : Array Value) (r : Nat) (ks : Array Value) (i : Int) (us : Array Value) (zz : Array Value) (o : Array Value) (e : Int) (QA : Array Value → Array Value → Nat → Array Value → Prop) (QB : Int → Array Value → Array Value → Nat → Array Value → Prop) : (stepT Ecn.go (run Ecn 1000) 0 (cI_F ts h u0 r ks i us zz) (cI_M ts h u0 r ks i us zz)).vc (retOk 0 [] (rgS o e) e0M) (cAB 0 ts h u0 r ks QA QB) =
  ((((0 : Int) ≤ i ∧ i < (↑r : Int)) ∧ True) ∧ (IsInt IntKind.u32 ks ((0 : Nat) + Int.toNat i * 1) ∧ True) ∧ (decide (ari BinOp.sub IntKind.i64 i (1 : Int) ≥ (0 : Int)) = true → QB (ari BinOp.sub IntKind.i64 i (1 : Int)) us zz (1 : Nat) #[Value.int IntKind.u32 (intAt ks ((0 : Nat) + Int.toNat i * 1))] ∧ CallKind.normal = CallKind.normal ∧ TodoOk (ren 0 [(0, 0), (1, 1), (2, 2), (3, 3), (4, 4), (5, 5), (7, 7), (8, 8), (9, 16), (10, 10), (60, 11), (61, 12), (63, 14), (20, 13)]) cB_d0 cB_d0 ∧ ari BinOp.sub IntKind.i64 i (1 : Int) = ari BinOp.sub IntKind.i64 i (1 : Int) ∧ CallKind.normal = CallKind.normal ∧ TodoOk (ren 0 [(0, 0), (1, 1), (2, 2), (3, 3), (4, 4), (5, 5), (7, 7), (8, 8), (9, 16), (10, 10), (60, 11), (61, 12), (63, 14), (20, 13)]) cB_d1 cI_d1 ∧ CallKind.normal = CallKind.normal ∧ TodoOk (ren 0 [(0, 0), (1, 1), (2, 2), (3, 3), (4, 4), (5, 5), (7, 7), (8, 8), (9, 16), (10, 10), (60, 11), (61, 12), (63, 14), (20, 13)]) cA_d1 cA_d1 ∧ (39 : TypeId) = (39 : TypeId) ∧ ts = ts ∧ (30 : TypeId) = (30 : TypeId) ∧ h = h ∧ (39 : TypeId) = (39 : TypeId) ∧ us = us ∧ (39 : TypeId) = (39 : TypeId) ∧ u0 = u0 ∧ (30 : TypeId) = (30 : Nat) ∧ #[Value.int IntKind.u32 (intAt ks ((0 : Nat) + Int.toNat i * 1))] = #[Value.int IntKind.u32 (intAt ks ((0 : Nat) + Int.toNat i * 1))] ∧ (49 : TypeId) = (49 : TypeId) ∧ r = r ∧ (39 : TypeId) = (39 : TypeId) ∧ zz = zz ∧ (55 : TypeId) = (55 : TypeId) ∧ Fn.func (24 : Nat) = Fn.func (24 : Nat) ∧ (30 : TypeId) = (30 : TypeId) ∧ ks = ks ∧ (49 : TypeId) = (49 : TypeId) ∧ (1 : Nat) = (1 : Nat) ∧ EqL cLp cLp ∧ EqL wkLp wkLp ∧ True) ∧ (decide (ari BinOp.sub IntKind.i64 i (1 : Int) ≥ (0 : Int)) = false → QA us zz (1 : Nat) #[Value.int IntKind.u32 (intAt ks ((0 : Nat) + Int.toNat i * 1))] ∧ CallKind.normal = CallKind.normal ∧ TodoOk (ren 0 [(0, 0), (1, 1), (2, 2), (3, 3), (4, 4), (5, 5), (7, 7), (8, 8), (9, 16), (10, 10), (20, 13)]) cA_d0 cA_d0 ∧ CallKind.normal = CallKind.normal ∧ TodoOk (ren 0 [(0, 0), (1, 1), (2, 2), (3, 3), (4, 4), (5, 5), (7, 7), (8, 8), (9, 16), (10, 10), (20, 13)]) cA_d1 cA_d1 ∧ (39 : TypeId) = (39 : TypeId) ∧ ts = ts ∧ (30 : TypeId) = (30 : TypeId) ∧ h = h ∧ (39 : TypeId) = (39 : TypeId) ∧ us = us ∧ (39 : TypeId) = (39 : TypeId) ∧ u0 = u0 ∧ (30 : TypeId) = (30 : Nat) ∧ #[Value.int IntKind.u32 (intAt ks ((0 : Nat) + Int.toNat i * 1))] = #[Value.int IntKind.u32 (intAt ks ((0 : Nat) + Int.toNat i * 1))] ∧ (39 : TypeId) = (39 : TypeId) ∧ zz = zz ∧ (55 : TypeId) = (55 : TypeId) ∧ Fn.func (24 : Nat) = Fn.func (24 : Nat) ∧ (49 : TypeId) = (49 : TypeId) ∧ (1 : Nat) = (1 : Nat) ∧ EqL cLp cLp ∧ True)) := by kernel_rfl
end Go.Proofs.YtldoopjnjlpbpaaDoor
/- Of forests: Cut: the walk's rounds, whatever marks are left. No condition. -/
namespace Go.Proofs.YtldoopjnjlpbpaaDoor
set_option linter.unusedVariables false
def cVA_R (j : Nat) (ts : Array Value) (h : Int) (u0 : Array Value) (r : Nat) (ks : Array Value) (us : Array Value) (zz : Array Value) (n : Nat) (cs : Array Value) (o : Array Value) (e : Int) (QA : Array Value → Array Value → Nat → Array Value → Prop) (QB : Int → Array Value → Array Value → Nat → Array Value → Prop) : Prop :=
 ((((0 : Int) ≤ ari BinOp.sub IntKind.i64 (↑n : Int) (1 : Int) ∧ ari BinOp.sub IntKind.i64 (↑n : Int) (1 : Int) < (↑n : Int)) ∧ True) ∧ (IsInt IntKind.u32 cs ((0 : Nat) + Int.toNat (ari BinOp.sub IntKind.i64 (↑n : Int) (1 : Int)) * 1) ∧ True) ∧ ((0 : Int) ≤ ari BinOp.sub IntKind.i64 (↑n : Int) (1 : Int) ∧ Int.toNat (ari BinOp.sub IntKind.i64 (↑n : Int) (1 : Int)) ≤ n ∧ True) ∧ (Array.size us = (448 : Nat) ∧ True) ∧ (TbOk us ∧ gdF us (intAt cs ((0 : Nat) + Int.toNat (ari BinOp.sub IntKind.i64 (↑n : Int) (1 : Int)) * 1)) = true ∧ FIn ts ∧ ((0 : Int) ≤ h ∧ h < (4294967296 : Int)) ∧ True) ∧ (Array.size (emT us ts h (intAt cs ((0 : Nat) + Int.toNat (ari BinOp.sub IntKind.i64 (↑n : Int) (1 : Int)) * 1))) = (448 : Nat) ∧ Array.size (emT us ts h (intAt cs ((0 : Nat) + Int.toNat (ari BinOp.sub IntKind.i64 (↑n : Int) (1 : Int)) * 1))) = Array.size us ∧ True) ∧ (Array.size u0 = (448 : Nat) ∧ True) ∧ (TbOk u0 ∧ ((0 : Int) ≤ intAt cs ((0 : Nat) + Int.toNat (ari BinOp.sub IntKind.i64 (↑n : Int) (1 : Int)) * 1) ∧ intAt cs ((0 : Nat) + Int.toNat (ari BinOp.sub IntKind.i64 (↑n : Int) (1 : Int)) * 1) < (4294967296 : Int)) ∧ True) ∧ (decide (List.length (kdF u0 (intAt cs ((0 : Nat) + Int.toNat (ari BinOp.sub IntKind.i64 (↑n : Int) (1 : Int)) * 1))) = (0 : Nat)) = true → (decide ((↑(Int.toNat (ari BinOp.sub IntKind.i64 (↑n : Int) (1 : Int))) : Int) > (0 : Int)) = true → QA (emT us ts h (intAt cs ((0 : Nat) + Int.toNat (ari BinOp.sub IntKind.i64 (↑n : Int) (1 : Int)) * 1))) zz (Int.toNat (ari BinOp.sub IntKind.i64 (↑n : Int) (1 : Int))) cs ∧ CallKind.normal = CallKind.normal ∧ TodoOk (ren 0 ([(0, 0), (1, 1), (2, 2), (3, 3), (4, 4), (5, 5), (7, 7), (8, 8), (9, 9), (10, 10)] ++ (20 + j, 61) :: idZ j)) cA_d0 cA_d0 ∧ CallKind.normal = CallKind.normal ∧ TodoOk (ren 0 ([(0, 0), (1, 1), (2, 2), (3, 3), (4, 4), (5, 5), (7, 7), (8, 8), (9, 9), (10, 10)] ++ (20 + j, 61) :: idZ j)) cA_d1 cA_d1 ∧ (39 : TypeId) = (39 : TypeId) ∧ ts = ts ∧ (30 : TypeId) = (30 : TypeId) ∧ h = h ∧ (39 : TypeId) = (39 : TypeId) ∧ emT us ts h (intAt cs ((0 : Nat) + Int.toNat (ari BinOp.sub IntKind.i64 (↑n : Int) (1 : Int)) * 1)) = emT us ts h (intAt cs ((0 : Nat) + Int.toNat (ari BinOp.sub IntKind.i64 (↑n : Int) (1 : Int)) * 1)) ∧ (39 : TypeId) = (39 : TypeId) ∧ u0 = u0 ∧ (30 : TypeId) = (30 : TypeId) ∧ cs = cs ∧ (39 : TypeId) = (39 : TypeId) ∧ zz = zz ∧ (55 : TypeId) = (55 : TypeId) ∧ Fn.func (24 : Nat) = Fn.func (24 : Nat) ∧ (49 : TypeId) = (49 : TypeId) ∧ Int.toNat (ari BinOp.sub IntKind.i64 (↑n : Int) (1 : Int)) = Int.toNat (ari BinOp.sub IntKind.i64 (↑n : Int) (1 : Int)) ∧ EqL cLp cLp ∧ True) ∧ (decide ((↑(Int.toNat (ari BinOp.sub IntKind.i64 (↑n : Int) (1 : Int))) : Int) > (0 : Int)) = false → (Array.size (emT us ts h (intAt cs ((0 : Nat) + Int.toNat (ari BinOp.sub IntKind.i64 (↑n : Int) (1 : Int)) * 1))) = (448 : Nat) ∧ True) ∧ (Array.size (emT us ts h (intAt cs ((0 : Nat) + Int.toNat (ari BinOp.sub IntKind.i64 (↑n : Int) (1 : Int)) * 1))) = (448 : Nat) ∧ Array.size (emT us ts h (intAt cs ((0 : Nat) + Int.toNat (ari BinOp.sub IntKind.i64 (↑n : Int) (1 : Int)) * 1))) = Array.size zz ∧ True) ∧ (Array.size (emT us ts h (intAt cs ((0 : Nat) + Int.toNat (ari BinOp.sub IntKind.i64 (↑n : Int) (1 : Int)) * 1))) = (448 : Nat) ∧ True) ∧ o = emT us ts h (intAt cs ((0 : Nat) + Int.toNat (ari BinOp.sub IntKind.i64 (↑n : Int) (1 : Int)) * 1)) ∧ e = (0 : Int) ∧ True)) ∧ (decide (List.length (kdF u0 (intAt cs ((0 : Nat) + Int.toNat (ari BinOp.sub IntKind.i64 (↑n : Int) (1 : Int)) * 1))) = (0 : Nat)) = false → (decide (ari BinOp.sub IntKind.i64 (↑(List.length (kdF u0 (intAt cs ((0 : Nat) + Int.toNat (ari BinOp.sub IntKind.i64 (↑n : Int) (1 : Int)) * 1)))) : Int) (1 : Int) ≥ (0 : Int)) = true → QB (ari BinOp.sub IntKind.i64 (↑(List.length (kdF u0 (intAt cs ((0 : Nat) + Int.toNat (ari BinOp.sub IntKind.i64 (↑n : Int) (1 : Int)) * 1)))) : Int) (1 : Int)) (emT us ts h (intAt cs ((0 : Nat) + Int.toNat (ari BinOp.sub IntKind.i64 (↑n : Int) (1 : Int)) * 1))) zz (Int.toNat (ari BinOp.sub IntKind.i64 (↑n : Int) (1 : Int))) cs ∧ CallKind.normal = CallKind.normal ∧ TodoOk (ren 0 ([(0, 0), (1, 1), (2, 2), (3, 3), (4, 4), (5, 5), (7, 7), (8, 8), (9, 9), (10, 10), (60, 60), (61, 61), (63, 63)] ++ (20 + j, 62) :: idZ j)) cB_d0 cB_d0 ∧ ari BinOp.sub IntKind.i64 (↑(List.length (kdF u0 (intAt cs ((0 : Nat) + Int.toNat (ari BinOp.sub IntKind.i64 (↑n : Int) (1 : Int)) * 1)))) : Int) (1 : Int) = ari BinOp.sub IntKind.i64 (↑(List.length (kdF u0 (intAt cs ((0 : Nat) + Int.toNat (ari BinOp.sub IntKind.i64 (↑n : Int) (1 : Int)) * 1)))) : Int) (1 : Int) ∧ CallKind.normal = CallKind.normal ∧ TodoOk (ren 0 ([(0, 0), (1, 1), (2, 2), (3, 3), (4, 4), (5, 5), (7, 7), (8, 8), (9, 9), (10, 10), (60, 60), (61, 61), (63, 63)] ++ (20 + j, 62) :: idZ j)) cB_d1 cB_d1 ∧ CallKind.normal = CallKind.normal ∧ TodoOk (ren 0 ([(0, 0), (1, 1), (2, 2), (3, 3), (4, 4), (5, 5), (7, 7), (8, 8), (9, 9), (10, 10), (60, 60), (61, 61), (63, 63)] ++ (20 + j, 62) :: idZ j)) cA_d1 cA_d1 ∧ (39 : TypeId) = (39 : TypeId) ∧ ts = ts ∧ (30 : TypeId) = (30 : TypeId) ∧ h = h ∧ (39 : TypeId) = (39 : TypeId) ∧ emT us ts h (intAt cs ((0 : Nat) + Int.toNat (ari BinOp.sub IntKind.i64 (↑n : Int) (1 : Int)) * 1)) = emT us ts h (intAt cs ((0 : Nat) + Int.toNat (ari BinOp.sub IntKind.i64 (↑n : Int) (1 : Int)) * 1)) ∧ (39 : TypeId) = (39 : TypeId) ∧ u0 = u0 ∧ (30 : TypeId) = (30 : TypeId) ∧ cs = cs ∧ (49 : TypeId) = (49 : Nat) ∧ r = List.length (kdF u0 (intAt cs ((0 : Nat) + Int.toNat (ari BinOp.sub IntKind.i64 (↑n : Int) (1 : Int)) * 1))) ∧ (39 : TypeId) = (39 : TypeId) ∧ zz = zz ∧ (55 : TypeId) = (55 : TypeId) ∧ Fn.func (24 : Nat) = Fn.func (24 : Nat) ∧ (30 : TypeId) = (30 : TypeId) ∧ ks = u32s (kdF u0 (intAt cs ((0 : Nat) + Int.toNat (ari BinOp.sub IntKind.i64 (↑n : Int) (1 : Int)) * 1))) ∧ (49 : TypeId) = (49 : TypeId) ∧ Int.toNat (ari BinOp.sub IntKind.i64 (↑n : Int) (1 : Int)) = Int.toNat (ari BinOp.sub IntKind.i64 (↑n : Int) (1 : Int)) ∧ EqL cLp cLp ∧ EqL wkLp wkLp ∧ True) ∧ (decide (ari BinOp.sub IntKind.i64 (↑(List.length (kdF u0 (intAt cs ((0 : Nat) + Int.toNat (ari BinOp.sub IntKind.i64 (↑n : Int) (1 : Int)) * 1)))) : Int) (1 : Int) ≥ (0 : Int)) = false → (decide ((↑(Int.toNat (ari BinOp.sub IntKind.i64 (↑n : Int) (1 : Int))) : Int) > (0 : Int)) = true → QA (emT us ts h (intAt cs ((0 : Nat) + Int.toNat (ari BinOp.sub IntKind.i64 (↑n : Int) (1 : Int)) * 1))) zz (Int.toNat (ari BinOp.sub IntKind.i64 (↑n : Int) (1 : Int))) cs ∧ CallKind.normal = CallKind.normal ∧ TodoOk (ren 0 ([(0, 0), (1, 1), (2, 2), (3, 3), (4, 4), (5, 5), (7, 7), (8, 8), (9, 9), (10, 10)] ++ (20 + j, 62) :: idZ j)) cA_d0 cA_d0 ∧ CallKind.normal = CallKind.normal ∧ TodoOk (ren 0 ([(0, 0), (1, 1), (2, 2), (3, 3), (4, 4), (5, 5), (7, 7), (8, 8), (9, 9), (10, 10)] ++ (20 + j, 62) :: idZ j)) cA_d1 cA_d1 ∧ (39 : TypeId) = (39 : TypeId) ∧ ts = ts ∧ (30 : TypeId) = (30 : TypeId) ∧ h = h ∧ (39 : TypeId) = (39 : TypeId) ∧ emT us ts h (intAt cs ((0 : Nat) + Int.toNat (ari BinOp.sub IntKind.i64 (↑n : Int) (1 : Int)) * 1)) = emT us ts h (intAt cs ((0 : Nat) + Int.toNat (ari BinOp.sub IntKind.i64 (↑n : Int) (1 : Int)) * 1)) ∧ (39 : TypeId) = (39 : TypeId) ∧ u0 = u0 ∧ (30 : TypeId) = (30 : TypeId) ∧ cs = cs ∧ (39 : TypeId) = (39 : TypeId) ∧ zz = zz ∧ (55 : TypeId) = (55 : TypeId) ∧ Fn.func (24 : Nat) = Fn.func (24 : Nat) ∧ (49 : TypeId) = (49 : TypeId) ∧ Int.toNat (ari BinOp.sub IntKind.i64 (↑n : Int) (1 : Int)) = Int.toNat (ari BinOp.sub IntKind.i64 (↑n : Int) (1 : Int)) ∧ EqL cLp cLp ∧ True) ∧ (decide ((↑(Int.toNat (ari BinOp.sub IntKind.i64 (↑n : Int) (1 : Int))) : Int) > (0 : Int)) = false → (Array.size (emT us ts h (intAt cs ((0 : Nat) + Int.toNat (ari BinOp.sub IntKind.i64 (↑n : Int) (1 : Int)) * 1))) = (448 : Nat) ∧ True) ∧ (Array.size (emT us ts h (intAt cs ((0 : Nat) + Int.toNat (ari BinOp.sub IntKind.i64 (↑n : Int) (1 : Int)) * 1))) = (448 : Nat) ∧ Array.size (emT us ts h (intAt cs ((0 : Nat) + Int.toNat (ari BinOp.sub IntKind.i64 (↑n : Int) (1 : Int)) * 1))) = Array.size zz ∧ True) ∧ (Array.size (emT us ts h (intAt cs ((0 : Nat) + Int.toNat (ari BinOp.sub IntKind.i64 (↑n : Int) (1 : Int)) * 1))) = (448 : Nat) ∧ True) ∧ o = emT us ts h (intAt cs ((0 : Nat) + Int.toNat (ari BinOp.sub IntKind.i64 (↑n : Int) (1 : Int)) * 1)) ∧ e = (0 : Int) ∧ True))))
theorem cVA_all : ∀ j, j < 33 → ∀ (ts : Array Value) (h : Int) (u0 : Array Value) (r : Nat) (ks : Array Value) (us : Array Value) (zz : Array Value) (n : Nat) (cs : Array Value) (o : Array Value) (e : Int) (QA : Array Value → Array Value → Nat → Array Value → Prop) (QB : Int → Array Value → Array Value → Nat → Array Value → Prop), (stepT Ecn.go (run Ecn 1000) 0 (cA_F j ts h u0 us zz n cs) (cA_M j ts h u0 us zz n cs)).vc (retOk 0 [] (rgS o e) e0M) (cAB j ts h u0 r ks QA QB) = cVA_R j ts h u0 r ks us zz n cs o e QA QB
 | 0, _ => fun ts h u0 r ks us zz n cs o e QA QB => by kernel_rfl
 | 1, _ => fun ts h u0 r ks us zz n cs o e QA QB => by kernel_rfl
 | 2, _ => fun ts h u0 r ks us zz n cs o e QA QB => by kernel_rfl
 | 3, _ => fun ts h u0 r ks us zz n cs o e QA QB => by kernel_rfl
 | 4, _ => fun ts h u0 r ks us zz n cs o e QA QB => by kernel_rfl
 | 5, _ => fun ts h u0 r ks us zz n cs o e QA QB => by kernel_rfl
 | 6, _ => fun ts h u0 r ks us zz n cs o e QA QB => by kernel_rfl
 | 7, _ => fun ts h u0 r ks us zz n cs o e QA QB => by kernel_rfl
 | 8, _ => fun ts h u0 r ks us zz n cs o e QA QB => by kernel_rfl
 | 9, _ => fun ts h u0 r ks us zz n cs o e QA QB => by kernel_rfl
 | 10, _ => fun ts h u0 r ks us zz n cs o e QA QB => by kernel_rfl
 | 11, _ => fun ts h u0 r ks us zz n cs o e QA QB => by kernel_rfl
 | 12, _ => fun ts h u0 r ks us zz n cs o e QA QB => by kernel_rfl
 | 13, _ => fun ts h u0 r ks us zz n cs o e QA QB => by kernel_rfl
 | 14, _ => fun ts h u0 r ks us zz n cs o e QA QB => by kernel_rfl
 | 15, _ => fun ts h u0 r ks us zz n cs o e QA QB => by kernel_rfl
 | 16, _ => fun ts h u0 r ks us zz n cs o e QA QB => by kernel_rfl
 | 17, _ => fun ts h u0 r ks us zz n cs o e QA QB => by kernel_rfl
 | 18, _ => fun ts h u0 r ks us zz n cs o e QA QB => by kernel_rfl
 | 19, _ => fun ts h u0 r ks us zz n cs o e QA QB => by kernel_rfl
 | 20, _ => fun ts h u0 r ks us zz n cs o e QA QB => by kernel_rfl
 | 21, _ => fun ts h u0 r ks us zz n cs o e QA QB => by kernel_rfl
 | 22, _ => fun ts h u0 r ks us zz n cs o e QA QB => by kernel_rfl
 | 23, _ => fun ts h u0 r ks us zz n cs o e QA QB => by kernel_rfl
 | 24, _ => fun ts h u0 r ks us zz n cs o e QA QB => by kernel_rfl
 | 25, _ => fun ts h u0 r ks us zz n cs o e QA QB => by kernel_rfl
 | 26, _ => fun ts h u0 r ks us zz n cs o e QA QB => by kernel_rfl
 | 27, _ => fun ts h u0 r ks us zz n cs o e QA QB => by kernel_rfl
 | 28, _ => fun ts h u0 r ks us zz n cs o e QA QB => by kernel_rfl
 | 29, _ => fun ts h u0 r ks us zz n cs o e QA QB => by kernel_rfl
 | 30, _ => fun ts h u0 r ks us zz n cs o e QA QB => by kernel_rfl
 | 31, _ => fun ts h u0 r ks us zz n cs o e QA QB => by kernel_rfl
 | 32, _ => fun ts h u0 r ks us zz n cs o e QA QB => by kernel_rfl
 | n + 33, h => by omega
def cVB_R (j : Nat) (ts : Array Value) (h : Int) (u0 : Array Value) (r : Nat) (ks : Array Value) (i : Int) (us : Array Value) (zz : Array Value) (n : Nat) (cs : Array Value) (o : Array Value) (e : Int) (QA : Array Value → Array Value → Nat → Array Value → Prop) (QB : Int → Array Value → Array Value → Nat → Array Value → Prop) : Prop :=
 ((((0 : Int) ≤ i ∧ i < (↑r : Int)) ∧ True) ∧ (IsInt IntKind.u32 ks ((0 : Nat) + Int.toNat i * 1) ∧ True) ∧ (((n + 1) * 4 ≤ (140737488355328 : Nat) ∧ n + 1 ≤ (140737488355328 : Nat)) ∧ n * 1 ≤ Array.size cs ∧ True) ∧ (decide (ari BinOp.sub IntKind.i64 i (1 : Int) ≥ (0 : Int)) = true → QB (ari BinOp.sub IntKind.i64 i (1 : Int)) us zz (n + 1) (Array.extract cs (0 : Nat) (n * 1) ++ #[Value.int IntKind.u32 (intAt ks ((0 : Nat) + Int.toNat i * 1))]) ∧ CallKind.normal = CallKind.normal ∧ TodoOk (ren 0 ([(0, 0), (1, 1), (2, 2), (3, 3), (4, 4), (5, 5), (7, 7), (8, 8), (9, 65), (10, 10), (60, 60), (61, 61), (63, 63)] ++ idZ (j + 1))) cB_d0 cB_d0 ∧ ari BinOp.sub IntKind.i64 i (1 : Int) = ari BinOp.sub IntKind.i64 i (1 : Int) ∧ CallKind.normal = CallKind.normal ∧ TodoOk (ren 0 ([(0, 0), (1, 1), (2, 2), (3, 3), (4, 4), (5, 5), (7, 7), (8, 8), (9, 65), (10, 10), (60, 60), (61, 61), (63, 63)] ++ idZ (j + 1))) cB_d1 cB_d1 ∧ CallKind.normal = CallKind.normal ∧ TodoOk (ren 0 ([(0, 0), (1, 1), (2, 2), (3, 3), (4, 4), (5, 5), (7, 7), (8, 8), (9, 65), (10, 10), (60, 60), (61, 61), (63, 63)] ++ idZ (j + 1))) cA_d1 cA_d1 ∧ (39 : TypeId) = (39 : TypeId) ∧ ts = ts ∧ (30 : TypeId) = (30 : TypeId) ∧ h = h ∧ (39 : TypeId) = (39 : TypeId) ∧ us = us ∧ (39 : TypeId) = (39 : TypeId) ∧ u0 = u0 ∧ (30 : TypeId) = (30 : Nat) ∧ Array.extract cs (0 : Nat) (n * 1) ++ #[Value.int IntKind.u32 (intAt ks ((0 : Nat) + Int.toNat i * 1))] = Array.extract cs (0 : Nat) (n * 1) ++ #[Value.int IntKind.u32 (intAt ks ((0 : Nat) + Int.toNat i * 1))] ∧ (49 : TypeId) = (49 : TypeId) ∧ r = r ∧ (39 : TypeId) = (39 : TypeId) ∧ zz = zz ∧ (55 : TypeId) = (55 : TypeId) ∧ Fn.func (24 : Nat) = Fn.func (24 : Nat) ∧ (30 : TypeId) = (30 : TypeId) ∧ ks = ks ∧ (49 : TypeId) = (49 : TypeId) ∧ n + 1 = n + 1 ∧ EqL cLp cLp ∧ EqL wkLp wkLp ∧ True) ∧ (decide (ari BinOp.sub IntKind.i64 i (1 : Int) ≥ (0 : Int)) = false → (decide ((↑(n + 1) : Int) > (0 : Int)) = true → QA us zz (n + 1) (Array.extract cs (0 : Nat) (n * 1) ++ #[Value.int IntKind.u32 (intAt ks ((0 : Nat) + Int.toNat i * 1))]) ∧ CallKind.normal = CallKind.normal ∧ TodoOk (ren 0 ([(0, 0), (1, 1), (2, 2), (3, 3), (4, 4), (5, 5), (7, 7), (8, 8), (9, 65), (10, 10)] ++ idZ (j + 1))) cA_d0 cA_d0 ∧ CallKind.normal = CallKind.normal ∧ TodoOk (ren 0 ([(0, 0), (1, 1), (2, 2), (3, 3), (4, 4), (5, 5), (7, 7), (8, 8), (9, 65), (10, 10)] ++ idZ (j + 1))) cA_d1 cA_d1 ∧ (39 : TypeId) = (39 : TypeId) ∧ ts = ts ∧ (30 : TypeId) = (30 : TypeId) ∧ h = h ∧ (39 : TypeId) = (39 : TypeId) ∧ us = us ∧ (39 : TypeId) = (39 : TypeId) ∧ u0 = u0 ∧ (30 : TypeId) = (30 : Nat) ∧ Array.extract cs (0 : Nat) (n * 1) ++ #[Value.int IntKind.u32 (intAt ks ((0 : Nat) + Int.toNat i * 1))] = Array.extract cs (0 : Nat) (n * 1) ++ #[Value.int IntKind.u32 (intAt ks ((0 : Nat) + Int.toNat i * 1))] ∧ (39 : TypeId) = (39 : TypeId) ∧ zz = zz ∧ (55 : TypeId) = (55 : TypeId) ∧ Fn.func (24 : Nat) = Fn.func (24 : Nat) ∧ (49 : TypeId) = (49 : TypeId) ∧ n + 1 = n + 1 ∧ EqL cLp cLp ∧ True) ∧ (decide ((↑(n + 1) : Int) > (0 : Int)) = false → (Array.size us = (448 : Nat) ∧ True) ∧ (Array.size us = (448 : Nat) ∧ Array.size us = Array.size zz ∧ True) ∧ (Array.size us = (448 : Nat) ∧ True) ∧ o = us ∧ e = (0 : Int) ∧ True)))
theorem cVB_all : ∀ j, j < 33 → ∀ (ts : Array Value) (h : Int) (u0 : Array Value) (r : Nat) (ks : Array Value) (i : Int) (us : Array Value) (zz : Array Value) (n : Nat) (cs : Array Value) (o : Array Value) (e : Int) (QA : Array Value → Array Value → Nat → Array Value → Prop) (QB : Int → Array Value → Array Value → Nat → Array Value → Prop), (stepT Ecn.go (run Ecn 1000) 0 (cB_F j ts h u0 r ks i us zz n cs) (cB_M j ts h u0 r ks i us zz n cs)).vc (retOk 0 [] (rgS o e) e0M) (cAB j ts h u0 r ks QA QB) = cVB_R j ts h u0 r ks i us zz n cs o e QA QB
 | 0, _ => fun ts h u0 r ks i us zz n cs o e QA QB => by kernel_rfl
 | 1, _ => fun ts h u0 r ks i us zz n cs o e QA QB => by kernel_rfl
 | 2, _ => fun ts h u0 r ks i us zz n cs o e QA QB => by kernel_rfl
 | 3, _ => fun ts h u0 r ks i us zz n cs o e QA QB => by kernel_rfl
 | 4, _ => fun ts h u0 r ks i us zz n cs o e QA QB => by kernel_rfl
 | 5, _ => fun ts h u0 r ks i us zz n cs o e QA QB => by kernel_rfl
 | 6, _ => fun ts h u0 r ks i us zz n cs o e QA QB => by kernel_rfl
 | 7, _ => fun ts h u0 r ks i us zz n cs o e QA QB => by kernel_rfl
 | 8, _ => fun ts h u0 r ks i us zz n cs o e QA QB => by kernel_rfl
 | 9, _ => fun ts h u0 r ks i us zz n cs o e QA QB => by kernel_rfl
 | 10, _ => fun ts h u0 r ks i us zz n cs o e QA QB => by kernel_rfl
 | 11, _ => fun ts h u0 r ks i us zz n cs o e QA QB => by kernel_rfl
 | 12, _ => fun ts h u0 r ks i us zz n cs o e QA QB => by kernel_rfl
 | 13, _ => fun ts h u0 r ks i us zz n cs o e QA QB => by kernel_rfl
 | 14, _ => fun ts h u0 r ks i us zz n cs o e QA QB => by kernel_rfl
 | 15, _ => fun ts h u0 r ks i us zz n cs o e QA QB => by kernel_rfl
 | 16, _ => fun ts h u0 r ks i us zz n cs o e QA QB => by kernel_rfl
 | 17, _ => fun ts h u0 r ks i us zz n cs o e QA QB => by kernel_rfl
 | 18, _ => fun ts h u0 r ks i us zz n cs o e QA QB => by kernel_rfl
 | 19, _ => fun ts h u0 r ks i us zz n cs o e QA QB => by kernel_rfl
 | 20, _ => fun ts h u0 r ks i us zz n cs o e QA QB => by kernel_rfl
 | 21, _ => fun ts h u0 r ks i us zz n cs o e QA QB => by kernel_rfl
 | 22, _ => fun ts h u0 r ks i us zz n cs o e QA QB => by kernel_rfl
 | 23, _ => fun ts h u0 r ks i us zz n cs o e QA QB => by kernel_rfl
 | 24, _ => fun ts h u0 r ks i us zz n cs o e QA QB => by kernel_rfl
 | 25, _ => fun ts h u0 r ks i us zz n cs o e QA QB => by kernel_rfl
 | 26, _ => fun ts h u0 r ks i us zz n cs o e QA QB => by kernel_rfl
 | 27, _ => fun ts h u0 r ks i us zz n cs o e QA QB => by kernel_rfl
 | 28, _ => fun ts h u0 r ks i us zz n cs o e QA QB => by kernel_rfl
 | 29, _ => fun ts h u0 r ks i us zz n cs o e QA QB => by kernel_rfl
 | 30, _ => fun ts h u0 r ks i us zz n cs o e QA QB => by kernel_rfl
 | 31, _ => fun ts h u0 r ks i us zz n cs o e QA QB => by kernel_rfl
 | 32, _ => fun ts h u0 r ks i us zz n cs o e QA QB => by kernel_rfl
 | n + 33, h => by omega
end Go.Proofs.YtldoopjnjlpbpaaDoor
/- Of forests: Cut: the walk's rounds. No condition. -/
namespace Go.Proofs.YtldoopjnjlpbpaaDoor
set_option maxRecDepth 100000
set_option linter.unusedSimpArgs false
set_option linter.unusedVariables false
theorem Ec0_ok : EnvOk Ec0 := EnvOk.with E0_ok _ _ conT4_ok
theorem Ecn_ok : EnvOk Ecn := EnvOk.with E0_ok _ _ conT4_ok
section
variable {ts u0 : Array Value} {h : Int}
def cuN (ts : Array Value) (h : Int) (u : Array Value) (o : List Int) : Array Value := o.foldl (fun us x => emT us ts h x) u
theorem cuN_one (u : Array Value) (o : List Int) (x : Int) : cuN ts h u (o ++ [x]) = emT (cuN ts h u o) ts h x := by unfold cuN; rw [List.foldl_append]; rfl
theorem em_f {u : Array Value} (hb : TbOk u) {x : Int} (hx : gdF u x = true) : TbOk (emT u ts h x) ∧ bkB (emT u ts h x) = bkB u ∧ ∀ y, gdF u y = true → upR (emT u ts h x) y = upR u y ∧ quF (emT u ts h x) y = quF u y ∧ ∀ k, k < 8 → ceF (emT u ts h x) y k = if y = x then clC ts h (ceF u y k) else ceF u y k := by
 obtain ⟨i1, i2, i3⟩ := rg_in hb hx
 obtain ⟨r1, r2, r3, r4⟩ := rgT_f (u := upR u x) (q := quF u x) (c := fun k => clC ts h (ceF u x k)) hb hx i1 i2 (fun k hk => cl_in (i3 k hk))
 refine ⟨r1, r2, fun y hy => ?_⟩
 by_cases e : y = x
 ·rw [e]
  exact ⟨r3.1, r3.2.1, fun k hk => by rw [if_pos rfl]; exact r3.2.2 k hk⟩
 ·obtain ⟨a, b, c⟩ := r4 y hy e
  exact ⟨a, b, fun k hk => by rw [if_neg e]; exact c k hk⟩
theorem cl_cl (c : Int) : clC ts h (clC ts h c) = clC ts h c := by
 by_cases k : c ≠ h ∧ outF ts c h = true
 ·have e : clC ts h c = 0 := if_pos k
  rw [e]
  unfold clC
  split <;> rfl
 ·have e : clC ts h c = c := if_neg k
  rw [e, e]
theorem cu_f : ∀ (o : List Int) {u : Array Value}, TbOk u → (∀ x ∈ o, gdF u x = true) → TbOk (cuN ts h u o) ∧ bkB (cuN ts h u o) = bkB u ∧ ∀ y, gdF u y = true → upR (cuN ts h u o) y = upR u y ∧ quF (cuN ts h u o) y = quF u y ∧ ∀ k, k < 8 → ceF (cuN ts h u o) y k = if y ∈ o then clC ts h (ceF u y k) else ceF u y k
 | [], u, hb, _ => ⟨hb, rfl, fun y _ => ⟨rfl, rfl, fun k _ => by simp [cuN]⟩⟩
 | x :: o, u, hb, hg => by
  obtain ⟨h1, h2, h3⟩ := em_f (ts := ts) (h := h) hb (hg x (List.mem_cons_self ..))
  obtain ⟨k1, k2, k3⟩ := cu_f o h1 (fun y hy => by rw [gd_bk h2]; exact hg y (List.mem_cons_of_mem _ hy))
  refine ⟨k1, k2.trans h2, fun y hy => ?_⟩
  obtain ⟨a1, a2, a3⟩ := h3 y hy
  obtain ⟨b1, b2, b3⟩ := k3 y (by rw [gd_bk h2]; exact hy)
  refine ⟨b1.trans a1, b2.trans a2, fun k hk => ?_⟩
  show ceF (cuN ts h (emT u ts h x) o) y k = _
  rw [b3 k hk, a3 k hk]
  by_cases e : y = x
  ·by_cases m : y ∈ o
   ·rw [if_pos m, if_pos e, cl_cl, if_pos (List.mem_cons.2 (.inl e))]
   ·rw [if_neg m, if_pos e, if_pos (List.mem_cons.2 (.inl e))]
  ·by_cases m : y ∈ o
   ·rw [if_pos m, if_neg e, if_pos (List.mem_cons_of_mem _ m)]
   ·rw [if_neg m, if_neg e, if_neg (fun k => (List.mem_cons.1 k).elim e m)]
theorem cAB_good {j r : Nat} {ks : Array Value} {A : SV → SMem → Prop} {QA : Array Value → Array Value → Nat → Array Value → Prop} {QB : Int → Array Value → Array Value → Nat → Array Value → Prop} {fs : List SFr} {m : SMem} (hA : ∀ us zz n cs, QA us zz n cs → Good Tryd.prog A 0 (cA_F (j + 1) ts h u0 us zz n cs) (cA_M (j + 1) ts h u0 us zz n cs)) (hB : ∀ i us zz n cs, QB i us zz n cs → Good Tryd.prog A 0 (cB_F j ts h u0 r ks i us zz n cs) (cB_M j ts h u0 r ks i us zz n cs)) (hb : cAB j ts h u0 r ks QA QB fs m) : Good Tryd.prog A 0 fs m := by
 unfold cAB at hb
 split at hb
 ·exact cA_good hA hb
 ·exact cB_good hB hb
theorem cB_S {j r : Nat} {ks : Array Value} {i : Int} {us zz : Array Value} {n : Nat} {cs o : Array Value} {e : Int} {QA : Array Value → Array Value → Nat → Array Value → Prop} {QB : Int → Array Value → Array Value → Nat → Array Value → Prop} (hr : r ≤ 1000) (hn : n ≤ 1000)
  (h1 : 0 ≤ i ∧ i < (r : Int)) (h2 : IsInt .u32 ks i.toNat) (h4 : n ≤ cs.size) (hB : 1 ≤ i → QB (i - 1) us zz (n + 1) (cs.extract 0 n ++ #[.int .u32 (intAt ks i.toNat)])) (hA : ¬ 1 ≤ i → QA us zz (n + 1) (cs.extract 0 n ++ #[.int .u32 (intAt ks i.toNat)])) : cVB_R j ts h u0 r ks i us zz n cs o e QA QB := by
 have e := i64_sub1 (i := i) ⟨h1.1, by omega⟩
 have d2 : decide (((n + 1 : Nat) : Int) > 0) = true := decide_eq_true (by omega)
 have hl1 : ((n + 1) * 4 ≤ 140737488355328 ∧ n + 1 ≤ 140737488355328) := ⟨by omega, by omega⟩
 have t1 : TodoOk (ren 0 ([(0, 0), (1, 1), (2, 2), (3, 3), (4, 4), (5, 5), (7, 7), (8, 8), (9, 65), (10, 10), (60, 60), (61, 61), (63, 63)] ++ idZ (j + 1))) cB_d1 cB_d1 := TodoOk.rf rfl (by kernel_rfl)
 have t2 : TodoOk (ren 0 ([(0, 0), (1, 1), (2, 2), (3, 3), (4, 4), (5, 5), (7, 7), (8, 8), (9, 65), (10, 10), (60, 60), (61, 61), (63, 63)] ++ idZ (j + 1))) cA_d1 cA_d1 := TodoOk.rf rfl (by kernel_rfl)
 have t3 : TodoOk (ren 0 ([(0, 0), (1, 1), (2, 2), (3, 3), (4, 4), (5, 5), (7, 7), (8, 8), (9, 65), (10, 10)] ++ idZ (j + 1))) cA_d1 cA_d1 := TodoOk.rf rfl (by kernel_rfl)
 unfold cVB_R
 simp only [e, d2, hl1, h1, h2, h4, t1, t2, t3, EqL_self, Nat.mul_one, Nat.zero_add, true_implies, Bool.true_eq_false, false_implies, and_true, true_and, cA_d0_ok, cB_d0_ok]
 refine ⟨fun k => hB (by have := of_decide_eq_true k; omega), fun k => hA (by have := of_decide_eq_false k; omega)⟩
section
variable {O : Array Value} {X : Int}
theorem cB_ok {j : Nat} {us zz : Array Value} {st0 K : List Int} (hj : j < 32) (hK : K.length ≤ 32) (hst : st0.length ≤ 64)
  (hA : ∀ cs, Stk cs (st0 ++ K.reverse) → Good Tryd.prog (retOk 0 [] (rgS O X) e0M) 0 (cA_F (j + 1) ts h u0 us zz (st0 ++ K.reverse).length cs) (cA_M (j + 1) ts h u0 us zz (st0 ++ K.reverse).length cs)) :
  ∀ (i : Nat) (cs : Array Value), i < K.length → Stk cs (st0 ++ (K.drop (i + 1)).reverse) → Good Tryd.prog (retOk 0 [] (rgS O X) e0M) 0 (cB_F j ts h u0 K.length (u32s K) (i : Int) us zz (st0 ++ (K.drop (i + 1)).reverse).length cs) (cB_M j ts h u0 K.length (u32s K) (i : Int) us zz (st0 ++ (K.drop (i + 1)).reverse).length cs) := by
 intro i
 induction i with
 | zero =>
  intro cs hi hs
  have hpush := hs.push (x := K.getD 0 0)
  have e0 : (st0 ++ (K.drop (0 + 1)).reverse) ++ [K.getD 0 0] = st0 ++ K.reverse := by
   rw [List.append_assoc]
   congr 1
   cases K with
   | nil => exact absurd hi (by simp)
   | cons a l => simp
  rw [e0] at hpush
  have el : (st0 ++ (K.drop (0 + 1)).reverse).length + 1 = (st0 ++ K.reverse).length := by
   have := congrArg List.length e0
   simp only [List.length_append, List.length_cons, List.length_nil] at this ⊢
   omega
  have hk := u32s_at hi
  have hl : (st0 ++ (K.drop (0 + 1)).reverse).length ≤ 96 := by rw [List.length_append, List.length_reverse, List.length_drop]; omega
  refine past_vc Ecn_ok 1000 (cVB_all j (by omega) ts h u0 _ _ _ _ _ _ _ O X (fun u z n c => u = us ∧ z = zz ∧ n = (st0 ++ K.reverse).length ∧ Stk c (st0 ++ K.reverse)) (fun _ _ _ _ _ => False)) ?_ (fun _ _ h => h) (fun fs m hb => cAB_good (fun u z n c ⟨e1, e2, e3, e4⟩ => by rw [e1, e2, e3]; exact hA c e4) (fun _ _ _ _ _ h => h.elim) hb)
  refine cB_S (by omega) (by omega) ⟨by omega, by omega⟩ (isI_of hk) hs.1 (fun k => absurd k (by decide)) (fun _ => ⟨rfl, rfl, el, ?_⟩)
  rw [show (((0 : Nat) : Int)).toNat = 0 from rfl, intAt_of hk]
  exact hpush
 | succ i ih =>
  intro cs hi hs
  have hpush := hs.push (x := K.getD (i + 1) 0)
  have e0 : (st0 ++ (K.drop (i + 1 + 1)).reverse) ++ [K.getD (i + 1) 0] = st0 ++ (K.drop (i + 1)).reverse := by
   rw [List.append_assoc]
   congr 1
   rw [List.drop_eq_getElem_cons hi, List.reverse_cons, List.getD_eq_getElem?_getD, List.getElem?_eq_getElem hi]
   rfl
  rw [e0] at hpush
  have el : (st0 ++ (K.drop (i + 1 + 1)).reverse).length + 1 = (st0 ++ (K.drop (i + 1)).reverse).length := by
   have := congrArg List.length e0
   simp only [List.length_append, List.length_cons, List.length_nil] at this ⊢
   omega
  have hk := u32s_at hi
  have hl : (st0 ++ (K.drop (i + 1 + 1)).reverse).length ≤ 96 := by rw [List.length_append, List.length_reverse, List.length_drop]; omega
  refine past_vc Ecn_ok 1000 (cVB_all j (by omega) ts h u0 _ _ _ _ _ _ _ O X (fun _ _ _ _ => False) (fun i' u z n c => i' = (i : Int) ∧ u = us ∧ z = zz ∧ n = (st0 ++ (K.drop (i + 1)).reverse).length ∧ Stk c (st0 ++ (K.drop (i + 1)).reverse))) ?_ (fun _ _ h => h) (fun fs m hb => cAB_good (fun _ _ _ _ h => h.elim) (fun i' u z n c ⟨e0, e1, e2, e3, e4⟩ => by rw [e0, e1, e2, e3]; exact ih c (by omega) e4) hb)
  refine cB_S (by omega) (by omega) ⟨by omega, by omega⟩ (by rw [Int.toNat_natCast]; exact isI_of hk) hs.1 (fun _ => ⟨by omega, rfl, rfl, el, ?_⟩) (fun k => absurd (show (1 : Int) ≤ ((i + 1 : Nat) : Int) by omega) k)
  rw [Int.toNat_natCast, intAt_of hk]
  exact hpush
end
theorem cA_S {j r : Nat} {ks us zz : Array Value} {n' : Nat} {cs o : Array Value} {x e : Int} {QA : Array Value → Array Value → Nat → Array Value → Prop} {QB : Int → Array Value → Array Value → Nat → Array Value → Prop} (hb : TbOk u0) (hf : FIn ts) (hh : inH h) (hus : TbOk us) (hgx : gdF us x = true) (hz : zz.size = 448) (hx : cs[n']? = some (.int .u32 x)) (hxi : inH x) (hn : n' ≤ 1000)
  (h0 : kdF u0 x = [] → (n' ≠ 0 → QA (emT us ts h x) zz n' cs) ∧ (n' = 0 → o = emT us ts h x ∧ e = 0))
  (h1 : kdF u0 x ≠ [] → QB (((kdF u0 x).length - 1 : Nat) : Int) (emT us ts h x) zz n' cs ∧ r = (kdF u0 x).length ∧ ks = u32s (kdF u0 x)) : cVA_R j ts h u0 r ks us zz (n' + 1) cs o e QA QB := by
 have e : ari .sub .i64 (((n' + 1 : Nat) : Int)) 1 = (n' : Int) := by rw [i64_sub1 ⟨by omega, by omega⟩]; omega
 have g1 : IsInt .u32 cs n' := isI_of hx
 have g2 : intAt cs n' = x := intAt_of hx
 have hxi' : 0 ≤ x ∧ x < 4294967296 := hxi
 have hh' : 0 ≤ h ∧ h < 4294967296 := hh
 have hs := hb.sz
 have hs2 := hus.sz
 have hs3 := (em_f (ts := ts) (h := h) hus hgx).1.sz
 have y0 : 0 ≤ (n' : Int) := by omega
 have y1 : (n' : Int) < ((n' + 1 : Nat) : Int) := by omega
 have y2 : n' ≤ n' + 1 := by omega
 have hkl := kd_len u0 x
 have t1 : ∀ k, TodoOk (ren 0 ([(0, 0), (1, 1), (2, 2), (3, 3), (4, 4), (5, 5), (7, 7), (8, 8), (9, 9), (10, 10)] ++ (20 + j, k) :: idZ j)) cA_d1 cA_d1 := fun k => TodoOk.rf rfl (by kernel_rfl)
 have t2 : ∀ k, TodoOk (ren 0 ([(0, 0), (1, 1), (2, 2), (3, 3), (4, 4), (5, 5), (7, 7), (8, 8), (9, 9), (10, 10), (60, 60), (61, 61), (63, 63)] ++ (20 + j, k) :: idZ j)) cB_d1 cB_d1 := fun k => TodoOk.rf rfl (by kernel_rfl)
 have t3 : ∀ k, TodoOk (ren 0 ([(0, 0), (1, 1), (2, 2), (3, 3), (4, 4), (5, 5), (7, 7), (8, 8), (9, 9), (10, 10), (60, 60), (61, 61), (63, 63)] ++ (20 + j, k) :: idZ j)) cA_d1 cA_d1 := fun k => TodoOk.rf rfl (by kernel_rfl)
 unfold cVA_R
 simp only [e, Int.toNat_natCast, Nat.mul_one, Nat.zero_add, g1, g2, hxi', hh', hs, hs2, hs3, hz, hb, hf, hus, hgx, y0, y1, y2, t1, t2, t3, EqL_self, Bool.false_eq_true, Bool.true_eq_false, true_implies, false_implies, and_true, true_and, cA_d0_ok, cB_d0_ok]
 constructor
 ·intro k
  obtain ⟨a, b⟩ := h0 (List.eq_nil_of_length_eq_zero (of_decide_eq_true k))
  exact ⟨fun c => a (by have := of_decide_eq_true c; omega), fun c => b (by have := of_decide_eq_false c; omega)⟩
 ·intro k
  have hne : kdF u0 x ≠ [] := fun e => of_decide_eq_false k (by rw [e]; rfl)
  have hp := List.length_pos_iff.2 hne
  obtain ⟨a, b, c⟩ := h1 hne
  have e2 : ari .sub .i64 ((kdF u0 x).length : Int) 1 = (((kdF u0 x).length - 1 : Nat) : Int) := by rw [i64_sub1 ⟨by omega, by omega⟩]; omega
  have d : decide ((((kdF u0 x).length - 1 : Nat) : Int) ≥ 0) = true := decide_eq_true (by omega)
  simp only [e2, d, true_implies, Bool.true_eq_false, false_implies, and_true]
  exact ⟨a, b, c⟩
theorem cA_ok (hf0 : FIn u0) (hf : FIn ts) (hhi : inH h) {c : Int} (hc : c ∈ lvT u0) {zz : Array Value} (hz : zz.size = 448) : ∀ (rem : Nat) (o st : List Int) (cs : Array Value), (UNL u0 c).length - o.length < rem → st ≠ [] → Stk cs st → (∀ y ∈ st, y ∈ lvT u0) → (∀ y ∈ o, y ∈ lvT u0) → o ++ st.reverse.flatMap (UNL u0) = UNL u0 c → Good Tryd.prog (retOk 0 [] (rgS (cuN ts h u0 (UNL u0 c)) 0) e0M) 0 (cA_F o.length ts h u0 (cuN ts h u0 o) zz st.length cs) (cA_M o.length ts h u0 (cuN ts h u0 o) zz st.length cs) := by
 have hU : (UNL u0 c).length ≤ 32 := un_32 hf0 hc
 have hb := hf0.ok
 intro rem
 induction rem with
 | zero => intro o st cs hr; omega
 | succ rem ih =>
  intro o st cs hr hne hs hsub hext hsum
  obtain ⟨st0, x, rfl⟩ := last_split hne
  have hx : x ∈ lvT u0 := hsub x (by simp)
  obtain ⟨hs0, hx0⟩ := hs.pop
  have hsum2 : (o ++ [x]) ++ ((kidsL (lvT u0) (upF u0) x).flatMap (UNL u0) ++ st0.reverse.flatMap (UNL u0)) = UNL u0 c := by
   rw [← hsum, List.reverse_append, List.reverse_cons, List.reverse_nil, List.nil_append, List.cons_append, List.nil_append, List.flatMap_cons, unl_cons hf0 hx]
   simp only [List.append_assoc, List.cons_append, List.nil_append]
  have ho : o.length < (UNL u0 c).length := by
   have := congrArg List.length hsum2
   simp only [List.length_append, List.length_cons, List.length_nil] at this
   omega
  have hxU : x ∈ UNL u0 c := by rw [← hsum2]; simp
  have hel : (st0 ++ [x]).length = st0.length + 1 := by rw [List.length_append]; rfl
  have hst0 : st0.length ≤ 64 := by
   have h1 := flat_len (f := UNL u0) (l := st0.reverse) fun y hy => by
    rw [unl_cons hf0 (hsub y (List.mem_append_left _ (List.mem_reverse.1 hy)))]
    exact Nat.le_add_left 1 _
   rw [List.length_reverse] at h1
   have h2 := congrArg List.length hsum2
   simp only [List.length_append, List.length_cons, List.length_nil] at h2
   omega
  have kd := kdF_eq hf0 hx
  have hkl := kd_len u0 x
  rw [hel]
  have eo : (o ++ [x]).length = o.length + 1 := by rw [List.length_append]; rfl
  have ho32 : o.length < 32 := by omega
  have hgo : ∀ y ∈ o, gdF u0 y = true := fun y hy => (lv_mem hb).1 (hext y hy)
  have hgx0 := (lv_mem hb).1 hx
  obtain ⟨cu1, cu2, _⟩ := cu_f (ts := ts) (h := h) o hb hgo
  have hgx : gdF (cuN ts h u0 o) x = true := by rw [gd_bk cu2]; exact hgx0
  have e1x := (cuN_one (ts := ts) (h := h) u0 o x).symm
  have hext2 : ∀ y ∈ o ++ [x], y ∈ lvT u0 := fun y hy => (List.mem_append.1 hy).elim (hext y) fun k => by rw [List.mem_singleton.1 k]; exact hx
  refine past_vc Ecn_ok 1000 (cVA_all o.length (by omega) ts h u0 (kdF u0 x).length (u32s (kdF u0 x)) _ _ _ _ (cuN ts h u0 (UNL u0 c)) 0
   (fun u z n c' => (u = cuN ts h u0 (o ++ [x]) ∧ z = zz) ∧ n = st0.length ∧ c' = cs ∧ st0 ≠ [] ∧ kdF u0 x = [])
   (fun i u z n c' => i = (((kdF u0 x).length - 1 : Nat) : Int) ∧ (u = cuN ts h u0 (o ++ [x]) ∧ z = zz) ∧ n = st0.length ∧ c' = cs ∧ kdF u0 x ≠ [])) ?_ (fun _ _ h => h)
   (fun fs m hg => cAB_good (fun u z n c' ⟨⟨e1, e2⟩, e3, e4, e5, e6⟩ => ?_) (fun i u z n c' ⟨e0, ⟨e1, e2⟩, e3, e4, e5⟩ => ?_) hg)
  ·refine cA_S hb hf hhi cu1 hgx hz hx0 (lv_in hb (.inr hx)) (by omega) (fun k => ⟨fun k2 => ⟨⟨e1x, rfl⟩, rfl, rfl, fun e => k2 (by rw [e]; rfl), k⟩, fun k2 => ?_⟩) (fun k => ⟨⟨rfl, ⟨e1x, rfl⟩, rfl, rfl, k⟩, rfl, rfl⟩)
   have e0 : st0 = [] := List.eq_nil_of_length_eq_zero k2
   rw [kd] at k
   rw [k, e0] at hsum2
   have e3 : UNL u0 c = o ++ [x] := by
    rw [← hsum2]
    simp
   rw [e3]
   exact ⟨e1x.symm, rfl⟩
  ·rw [e1, e2, e3, e4, ← eo]
   rw [kd] at e6
   rw [e6] at hsum2
   refine ih (o ++ [x]) st0 cs (by rw [eo]; omega) e5 hs0 (fun y hy => hsub y (List.mem_append_left _ hy)) hext2 ?_
   simpa using hsum2
  ·rw [e0, e1, e2, e3, e4]
   have hp := List.length_pos_iff.2 e5
   have hdrop : (kdF u0 x).drop ((kdF u0 x).length - 1 + 1) = [] := List.drop_eq_nil_of_le (by omega)
   have := cB_ok (ts := ts) (h := h) (u0 := u0) (O := (cuN ts h u0 (UNL u0 c))) (X := 0) (j := o.length) (us := cuN ts h u0 (o ++ [x])) (zz := zz) (st0 := st0) (K := kdF u0 x) (by omega) hkl hst0 (fun c' hc' => ?_) ((kdF u0 x).length - 1) cs (by omega) (by rw [hdrop]; simpa using hs0)
   ·rw [hdrop] at this
    simpa using this
   ·rw [← eo]
    have hsub2 : ∀ y ∈ st0 ++ (kdF u0 x).reverse, y ∈ lvT u0 := fun y hy => by
     rcases List.mem_append.1 hy with k | k
     ·exact hsub y (List.mem_append_left _ k)
     ·rw [kd] at k
      exact (kids_memL.1 (List.mem_reverse.1 k)).1
    refine ih (o ++ [x]) (st0 ++ (kdF u0 x).reverse) c' (by rw [eo]; omega) (fun e => e5 (by simpa using (List.append_eq_nil_iff.1 e).2)) hc' hsub2 hext2 ?_
    ·rw [List.reverse_append, List.reverse_reverse, List.flatMap_append, kd]
     exact hsum2
end
end Go.Proofs.YtldoopjnjlpbpaaDoor
/- Of forests: Graft: the walk's rounds. No condition. -/
namespace Go.Proofs.YtldoopjnjlpbpaaDoor
set_option maxRecDepth 100000
set_option linter.unusedSimpArgs false
set_option linter.unusedVariables false
theorem Eg0_ok : EnvOk Eg0 := EnvOk.with E0_ok _ _ conT4_ok
theorem Egn_ok : EnvOk Egn := EnvOk.with E0_ok _ _ conT4_ok
section
variable {ts : Array Value} {h up : Int}
theorem dep_13 (hf : FIn ts) (x : Int) : depF ts x ≤ 13 := by
 unfold depF
 split
 ·rename_i k; exact (dep_le hf.fo ((lv_mem hf.ok).2 k)).2
 ·exact Nat.zero_le _
theorem gAB_good {j r : Nat} {ks : Array Value} {A : SV → SMem → Prop} {QA : Array Value → Nat → Array Value → Prop} {QB : Int → Array Value → Nat → Array Value → Prop} {fs : List SFr} {m : SMem} (hA : ∀ zz n cs, QA zz n cs → Good Tryd.prog A 0 (gA_F (j + 1) ts h up zz n cs) (gA_M (j + 1) ts h up zz n cs)) (hB : ∀ i zz n cs, QB i zz n cs → Good Tryd.prog A 0 (gB_F j ts h up r ks i zz n cs) (gB_M j ts h up r ks i zz n cs)) (hb : gAB j ts h up r ks QA QB fs m) : Good Tryd.prog A 0 fs m := by
 unfold gAB at hb
 split at hb
 ·exact gA_good hA hb
 ·exact gB_good hB hb
theorem gB_S {j r : Nat} {ks : Array Value} {i : Int} {zz : Array Value} {n : Nat} {cs o : Array Value} {e : Int} {QA : Array Value → Nat → Array Value → Prop} {QB : Int → Array Value → Nat → Array Value → Prop} (hr : r ≤ 1000) (hn : n ≤ 1000)
  (h1 : 0 ≤ i ∧ i < (r : Int)) (h2 : IsInt .u32 ks i.toNat) (h4 : n ≤ cs.size) (hB : 1 ≤ i → QB (i - 1) zz (n + 1) (cs.extract 0 n ++ #[.int .u32 (intAt ks i.toNat)])) (hA : ¬ 1 ≤ i → QA zz (n + 1) (cs.extract 0 n ++ #[.int .u32 (intAt ks i.toNat)])) : gVB_R j ts h up r ks i zz n cs o e QA QB := by
 have e := i64_sub1 (i := i) ⟨h1.1, by omega⟩
 have d2 : decide (((n + 1 : Nat) : Int) > 0) = true := decide_eq_true (by omega)
 have hl1 : ((n + 1) * 4 ≤ 140737488355328 ∧ n + 1 ≤ 140737488355328) := ⟨by omega, by omega⟩
 have t1 : TodoOk (ren 0 ([(0, 0), (1, 1), (2, 2), (3, 3), (4, 4), (6, 6), (7, 7), (8, 65), (9, 9), (60, 60), (61, 61), (63, 63)] ++ idZ (j + 1))) gB_d1 gB_d1 := TodoOk.rf rfl (by kernel_rfl)
 have t2 : TodoOk (ren 0 ([(0, 0), (1, 1), (2, 2), (3, 3), (4, 4), (6, 6), (7, 7), (8, 65), (9, 9), (60, 60), (61, 61), (63, 63)] ++ idZ (j + 1))) gA_d1 gA_d1 := TodoOk.rf rfl (by kernel_rfl)
 have t3 : TodoOk (ren 0 ([(0, 0), (1, 1), (2, 2), (3, 3), (4, 4), (6, 6), (7, 7), (8, 65), (9, 9)] ++ idZ (j + 1))) gA_d1 gA_d1 := TodoOk.rf rfl (by kernel_rfl)
 unfold gVB_R
 simp only [e, d2, hl1, h1, h2, h4, t1, t2, t3, EqL_self, Nat.mul_one, Nat.zero_add, true_implies, Bool.true_eq_false, false_implies, and_true, true_and, gA_d0_ok, gB_d0_ok]
 refine ⟨fun k => hB (by have := of_decide_eq_true k; omega), fun k => hA (by have := of_decide_eq_false k; omega)⟩
section
variable {O : Array Value} {X : Int}
theorem gB_ok {j : Nat} {zz : Array Value} {st0 K : List Int} (hj : j < 32) (hK : K.length ≤ 32) (hst : st0.length ≤ 64)
  (hA : ∀ cs, Stk cs (st0 ++ K.reverse) → Good Tryd.prog (retOk 0 [] (rgS O X) e0M) 0 (gA_F (j + 1) ts h up zz (st0 ++ K.reverse).length cs) (gA_M (j + 1) ts h up zz (st0 ++ K.reverse).length cs)) :
  ∀ (i : Nat) (cs : Array Value), i < K.length → Stk cs (st0 ++ (K.drop (i + 1)).reverse) → Good Tryd.prog (retOk 0 [] (rgS O X) e0M) 0 (gB_F j ts h up K.length (u32s K) (i : Int) zz (st0 ++ (K.drop (i + 1)).reverse).length cs) (gB_M j ts h up K.length (u32s K) (i : Int) zz (st0 ++ (K.drop (i + 1)).reverse).length cs) := by
 intro i
 induction i with
 | zero =>
  intro cs hi hs
  have hpush := hs.push (x := K.getD 0 0)
  have e0 : (st0 ++ (K.drop (0 + 1)).reverse) ++ [K.getD 0 0] = st0 ++ K.reverse := by
   rw [List.append_assoc]
   congr 1
   cases K with
   | nil => exact absurd hi (by simp)
   | cons a l => simp
  rw [e0] at hpush
  have el : (st0 ++ (K.drop (0 + 1)).reverse).length + 1 = (st0 ++ K.reverse).length := by
   have := congrArg List.length e0
   simp only [List.length_append, List.length_cons, List.length_nil] at this ⊢
   omega
  have hk := u32s_at hi
  have hl : (st0 ++ (K.drop (0 + 1)).reverse).length ≤ 96 := by rw [List.length_append, List.length_reverse, List.length_drop]; omega
  refine past_vc Egn_ok 1000 (gVB_all j (by omega) ts h up _ _ _ _ _ _ O X (fun z n c => z = zz ∧ n = (st0 ++ K.reverse).length ∧ Stk c (st0 ++ K.reverse)) (fun _ _ _ _ => False)) ?_ (fun _ _ h => h) (fun fs m hb => gAB_good (fun z n c ⟨e2, e3, e4⟩ => by rw [e2, e3]; exact hA c e4) (fun _ _ _ _ h => h.elim) hb)
  refine gB_S (by omega) (by omega) ⟨by omega, by omega⟩ (isI_of hk) hs.1 (fun k => absurd k (by decide)) (fun _ => ⟨rfl, el, ?_⟩)
  rw [show (((0 : Nat) : Int)).toNat = 0 from rfl, intAt_of hk]
  exact hpush
 | succ i ih =>
  intro cs hi hs
  have hpush := hs.push (x := K.getD (i + 1) 0)
  have e0 : (st0 ++ (K.drop (i + 1 + 1)).reverse) ++ [K.getD (i + 1) 0] = st0 ++ (K.drop (i + 1)).reverse := by
   rw [List.append_assoc]
   congr 1
   rw [List.drop_eq_getElem_cons hi, List.reverse_cons, List.getD_eq_getElem?_getD, List.getElem?_eq_getElem hi]
   rfl
  rw [e0] at hpush
  have el : (st0 ++ (K.drop (i + 1 + 1)).reverse).length + 1 = (st0 ++ (K.drop (i + 1)).reverse).length := by
   have := congrArg List.length e0
   simp only [List.length_append, List.length_cons, List.length_nil] at this ⊢
   omega
  have hk := u32s_at hi
  have hl : (st0 ++ (K.drop (i + 1 + 1)).reverse).length ≤ 96 := by rw [List.length_append, List.length_reverse, List.length_drop]; omega
  refine past_vc Egn_ok 1000 (gVB_all j (by omega) ts h up _ _ _ _ _ _ O X (fun _ _ _ => False) (fun i' z n c => i' = (i : Int) ∧ z = zz ∧ n = (st0 ++ (K.drop (i + 1)).reverse).length ∧ Stk c (st0 ++ (K.drop (i + 1)).reverse))) ?_ (fun _ _ h => h) (fun fs m hb => gAB_good (fun _ _ _ h => h.elim) (fun i' z n c ⟨e0, e2, e3, e4⟩ => by rw [e0, e2, e3]; exact ih c (by omega) e4) hb)
  refine gB_S (by omega) (by omega) ⟨by omega, by omega⟩ (by rw [Int.toNat_natCast]; exact isI_of hk) hs.1 (fun _ => ⟨by omega, rfl, el, ?_⟩) (fun k => absurd (show (1 : Int) ≤ ((i + 1 : Nat) : Int) by omega) k)
  rw [Int.toNat_natCast, intAt_of hk]
  exact hpush
end
theorem gA_S {j r : Nat} {ks zz : Array Value} {n' : Nat} {cs o : Array Value} {x e : Int} {QA : Array Value → Nat → Array Value → Prop} {QB : Int → Array Value → Nat → Array Value → Prop} (hf : FIn ts) (hh : inH h) (hu : inH up) (hz : zz.size = 448) (hsr : (raT ts h up).size = 448) (hx : cs[n']? = some (.int .u32 x)) (hxi : inH x) (hn : n' ≤ 1000) (hd6 : depF ts x ≤ 13 ∧ depF ts up ≤ 13) (hbad : ¬ depF ts x + depF ts up ≤ 6 → o = ts ∧ e = 8)
  (h0 : depF ts x + depF ts up ≤ 6 → kdF ts x = [] → (n' ≠ 0 → QA zz n' cs) ∧ (n' = 0 → o = raT ts h up ∧ e = raE ts h up))
  (h1 : depF ts x + depF ts up ≤ 6 → kdF ts x ≠ [] → QB (((kdF ts x).length - 1 : Nat) : Int) zz n' cs ∧ r = (kdF ts x).length ∧ ks = u32s (kdF ts x)) : gVA_R j ts h up r ks zz (n' + 1) cs o e QA QB := by
 have hb := hf.ok
 have e : ari .sub .i64 (((n' + 1 : Nat) : Int)) 1 = (n' : Int) := by rw [i64_sub1 ⟨by omega, by omega⟩]; omega
 have g1 : IsInt .u32 cs n' := isI_of hx
 have g2 : intAt cs n' = x := intAt_of hx
 have hxi' : 0 ≤ x ∧ x < 4294967296 := hxi
 have hh' : 0 ≤ h ∧ h < 4294967296 := hh
 have hu' : 0 ≤ up ∧ up < 4294967296 := hu
 have hs := hb.sz
 have ed : ari .add .i64 ((depF ts x : Nat) : Int) ((depF ts up : Nat) : Int) = ((depF ts x + depF ts up : Nat) : Int) := by rw [ari_add, i64_in' (by omega) (by omega)]; omega
 have y0 : 0 ≤ (n' : Int) := by omega
 have y1 : (n' : Int) < ((n' + 1 : Nat) : Int) := by omega
 have y2 : n' ≤ n' + 1 := by omega
 have hkl := kd_len ts x
 have t1 : ∀ k, TodoOk (ren 0 ([(0, 0), (1, 1), (2, 2), (3, 3), (4, 4), (6, 6), (7, 7), (8, 8), (9, 9)] ++ (20 + j, k) :: idZ j)) gA_d1 gA_d1 := fun k => TodoOk.rf rfl (by kernel_rfl)
 have t2 : ∀ k, TodoOk (ren 0 ([(0, 0), (1, 1), (2, 2), (3, 3), (4, 4), (6, 6), (7, 7), (8, 8), (9, 9), (60, 60), (61, 61), (63, 63)] ++ (20 + j, k) :: idZ j)) gB_d1 gB_d1 := fun k => TodoOk.rf rfl (by kernel_rfl)
 have t3 : ∀ k, TodoOk (ren 0 ([(0, 0), (1, 1), (2, 2), (3, 3), (4, 4), (6, 6), (7, 7), (8, 8), (9, 9), (60, 60), (61, 61), (63, 63)] ++ (20 + j, k) :: idZ j)) gA_d1 gA_d1 := fun k => TodoOk.rf rfl (by kernel_rfl)
 unfold gVA_R
 by_cases hle : depF ts x + depF ts up ≤ 6
 rotate_left
 ·obtain ⟨b1, b2⟩ := hbad hle
  have dd : decide (((depF ts x + depF ts up : Nat) : Int) > 6) = true := decide_eq_true (by omega)
  simp only [e, dd, b1, b2, Int.toNat_natCast, Nat.mul_one, Nat.zero_add, g1, g2, hxi', hh', hu', hs, hz, hsr, hb, hf, ed, y0, y1, y2, true_implies, Bool.true_eq_false, false_implies, and_true, true_and]
 have dd : decide (((depF ts x + depF ts up : Nat) : Int) > 6) = false := decide_eq_false (by omega)
 have h0 := h0 hle
 have h1 := h1 hle
 simp only [e, dd, Int.toNat_natCast, Nat.mul_one, Nat.zero_add, g1, g2, hxi', hh', hu', hs, hz, hsr, hb, hf, ed, y0, y1, y2, t1, t2, t3, EqL_self, Bool.false_eq_true, Bool.true_eq_false, true_implies, false_implies, and_true, true_and, gA_d0_ok, gB_d0_ok]
 constructor
 ·intro k
  obtain ⟨a, b⟩ := h0 (List.eq_nil_of_length_eq_zero (of_decide_eq_true k))
  exact ⟨fun c => a (by have := of_decide_eq_true c; omega), fun c => b (by have := of_decide_eq_false c; omega)⟩
 ·intro k
  have hne : kdF ts x ≠ [] := fun e => of_decide_eq_false k (by rw [e]; rfl)
  have hp := List.length_pos_iff.2 hne
  obtain ⟨a, b, c⟩ := h1 hne
  have e2 : ari .sub .i64 ((kdF ts x).length : Int) 1 = (((kdF ts x).length - 1 : Nat) : Int) := by rw [i64_sub1 ⟨by omega, by omega⟩]; omega
  have d : decide ((((kdF ts x).length - 1 : Nat) : Int) ≥ 0) = true := decide_eq_true (by omega)
  simp only [e2, d, true_implies, Bool.true_eq_false, false_implies, and_true]
  exact ⟨a, b, c⟩
theorem gA_ok (hf : FIn ts) (hhi : inH h) (hu : inH up) (hsr : (raT ts h up).size = 448) {c : Int} (hc : c ∈ lvT ts) {zz : Array Value} (hz : zz.size = 448) {O : Array Value} {X : Int} (hgood : (∀ y ∈ UNL ts c, depF ts y + depF ts up ≤ 6) → O = raT ts h up ∧ X = raE ts h up) (hbad : ∀ y ∈ UNL ts c, ¬ depF ts y + depF ts up ≤ 6 → O = ts ∧ X = 8) : ∀ (rem : Nat) (o st : List Int) (cs : Array Value), (UNL ts c).length - o.length < rem → st ≠ [] → Stk cs st → (∀ y ∈ st, y ∈ lvT ts) → (∀ y ∈ o, depF ts y + depF ts up ≤ 6) → o ++ st.reverse.flatMap (UNL ts) = UNL ts c → Good Tryd.prog (retOk 0 [] (rgS O X) e0M) 0 (gA_F o.length ts h up zz st.length cs) (gA_M o.length ts h up zz st.length cs) := by
 have hU : (UNL ts c).length ≤ 32 := un_32 hf hc
 have hb := hf.ok
 intro rem
 induction rem with
 | zero => intro o st cs hr; omega
 | succ rem ih =>
  intro o st cs hr hne hs hsub hext hsum
  obtain ⟨st0, x, rfl⟩ := last_split hne
  have hx : x ∈ lvT ts := hsub x (by simp)
  obtain ⟨hs0, hx0⟩ := hs.pop
  have hsum2 : (o ++ [x]) ++ ((kidsL (lvT ts) (upF ts) x).flatMap (UNL ts) ++ st0.reverse.flatMap (UNL ts)) = UNL ts c := by
   rw [← hsum, List.reverse_append, List.reverse_cons, List.reverse_nil, List.nil_append, List.cons_append, List.nil_append, List.flatMap_cons, unl_cons hf hx]
   simp only [List.append_assoc, List.cons_append, List.nil_append]
  have ho : o.length < (UNL ts c).length := by
   have := congrArg List.length hsum2
   simp only [List.length_append, List.length_cons, List.length_nil] at this
   omega
  have hxU : x ∈ UNL ts c := by rw [← hsum2]; simp
  have hel : (st0 ++ [x]).length = st0.length + 1 := by rw [List.length_append]; rfl
  have hst0 : st0.length ≤ 64 := by
   have h1 := flat_len (f := UNL ts) (l := st0.reverse) fun y hy => by
    rw [unl_cons hf (hsub y (List.mem_append_left _ (List.mem_reverse.1 hy)))]
    exact Nat.le_add_left 1 _
   rw [List.length_reverse] at h1
   have h2 := congrArg List.length hsum2
   simp only [List.length_append, List.length_cons, List.length_nil] at h2
   omega
  have kd := kdF_eq hf hx
  have hkl := kd_len ts x
  rw [hel]
  have eo : (o ++ [x]).length = o.length + 1 := by rw [List.length_append]; rfl
  have ho32 : o.length < 32 := by omega
  have hd13 : depF ts x ≤ 13 ∧ depF ts up ≤ 13 := ⟨dep_13 hf x, dep_13 hf up⟩
  refine past_vc Egn_ok 1000 (gVA_all o.length (by omega) ts h up (kdF ts x).length (u32s (kdF ts x)) _ _ _ O X
   (fun z n c' => (z = zz) ∧ n = st0.length ∧ c' = cs ∧ st0 ≠ [] ∧ kdF ts x = [] ∧ depF ts x + depF ts up ≤ 6)
   (fun i z n c' => i = (((kdF ts x).length - 1 : Nat) : Int) ∧ (z = zz) ∧ n = st0.length ∧ c' = cs ∧ kdF ts x ≠ [] ∧ depF ts x + depF ts up ≤ 6)) ?_ (fun _ _ h => h)
   (fun fs m hg => gAB_good (fun z n c' ⟨e2, e3, e4, e5, e6, e7⟩ => ?_) (fun i z n c' ⟨e0, e2, e3, e4, e5, e7⟩ => ?_) hg)
  ·refine gA_S hf hhi hu hz hsr hx0 (lv_in hb (.inr hx)) (by omega) hd13 (fun k => hbad x hxU k) (fun k6 k => ⟨fun k2 => ⟨rfl, rfl, rfl, fun e => k2 (by rw [e]; rfl), k, k6⟩, fun k2 => ?_⟩) (fun k6 k => ⟨⟨rfl, rfl, rfl, rfl, k, k6⟩, rfl, rfl⟩)
   have e0 : st0 = [] := List.eq_nil_of_length_eq_zero k2
   rw [kd] at k
   rw [k, e0] at hsum2
   have e3 : UNL ts c = o ++ [x] := by
    rw [← hsum2]
    simp
   refine hgood fun y hy => ?_
   rw [e3] at hy
   exact (List.mem_append.1 hy).elim (hext y) fun k => by rw [List.mem_singleton.1 k]; exact k6
  ·rw [e2, e3, e4, ← eo]
   have hext2 : ∀ y ∈ o ++ [x], depF ts y + depF ts up ≤ 6 := fun y hy => (List.mem_append.1 hy).elim (hext y) fun k => by rw [List.mem_singleton.1 k]; exact e7
   rw [kd] at e6
   rw [e6] at hsum2
   refine ih (o ++ [x]) st0 cs (by rw [eo]; omega) e5 hs0 (fun y hy => hsub y (List.mem_append_left _ hy)) hext2 ?_
   simpa using hsum2
  ·rw [e0, e2, e3, e4]
   have hext2 : ∀ y ∈ o ++ [x], depF ts y + depF ts up ≤ 6 := fun y hy => (List.mem_append.1 hy).elim (hext y) fun k => by rw [List.mem_singleton.1 k]; exact e7
   have hp := List.length_pos_iff.2 e5
   have hdrop : (kdF ts x).drop ((kdF ts x).length - 1 + 1) = [] := List.drop_eq_nil_of_le (by omega)
   have := gB_ok (ts := ts) (h := h) (up := up) (O := O) (X := X) (j := o.length) (zz := zz) (st0 := st0) (K := kdF ts x) (by omega) hkl hst0 (fun c' hc' => ?_) ((kdF ts x).length - 1) cs (by omega) (by rw [hdrop]; simpa using hs0)
   ·rw [hdrop] at this
    simpa using this
   ·rw [← eo]
    have hsub2 : ∀ y ∈ st0 ++ (kdF ts x).reverse, y ∈ lvT ts := fun y hy => by
     rcases List.mem_append.1 hy with k | k
     ·exact hsub y (List.mem_append_left _ k)
     ·rw [kd] at k
      exact (kids_memL.1 (List.mem_reverse.1 k)).1
    refine ih (o ++ [x]) (st0 ++ (kdF ts x).reverse) c' (by rw [eo]; omega) (fun e => e5 (by simpa using (List.append_eq_nil_iff.1 e).2)) hc' hsub2 hext2 ?_
    ·rw [List.reverse_append, List.reverse_reverse, List.flatMap_append, kd]
     exact hsum2
end
end Go.Proofs.YtldoopjnjlpbpaaDoor
/- Of forests: Cut: its contract. No condition. -/
namespace Go.Proofs.YtldoopjnjlpbpaaDoor
set_option maxRecDepth 100000
set_option linter.unusedSimpArgs false
set_option linter.unusedVariables false
section
variable {ts u0 : Array Value} {h : Int}
theorem cI_ok (hf0 : FIn u0) (hf : FIn ts) (hh : h ∈ lvT u0) (hne : kdF u0 h ≠ []) : Good Tryd.prog (retOk 0 [] (rgS (cuN ts h u0 (UNL u0 h)) 0) e0M) 0 (cI_F ts h u0 (kdF u0 h).length (u32s (kdF u0 h)) (((kdF u0 h).length - 1 : Nat) : Int) (cuN ts h u0 [h]) zT) (cI_M ts h u0 (kdF u0 h).length (u32s (kdF u0 h)) (((kdF u0 h).length - 1 : Nat) : Int) (cuN ts h u0 [h]) zT) := by
  have hp := List.length_pos_iff.2 hne
  have hkl := kd_len u0 h
  have kd := kdF_eq hf0 hh
  have hsum : [h] ++ (([] : List Int) ++ (kdF u0 h).reverse).reverse.flatMap (UNL u0) = UNL u0 h := by
    rw [List.nil_append, List.reverse_reverse, kd, unl_cons hf0 hh]
    rfl
  have hA : ∀ cs, Stk cs (([] : List Int) ++ (kdF u0 h).reverse) → Good Tryd.prog (retOk 0 [] (rgS (cuN ts h u0 (UNL u0 h)) 0) e0M) 0 (cA_F (0 + 1) ts h u0 (cuN ts h u0 [h]) zT (([] : List Int) ++ (kdF u0 h).reverse).length cs) (cA_M (0 + 1) ts h u0 (cuN ts h u0 [h]) zT (([] : List Int) ++ (kdF u0 h).reverse).length cs) := fun cs hc =>
    cA_ok hf0 hf (lv_in hf0.ok (.inr hh)) hh zT_sz _ [h] _ cs (Nat.lt_succ_self _) (fun e => hne (by simpa using e)) hc (fun y hy => by
      rw [List.nil_append] at hy
      have hy := List.mem_reverse.1 hy
      rw [kd] at hy
      exact (kids_memL.1 hy).1) (fun y hy => by rw [List.mem_singleton.1 hy]; exact hh) hsum
  have hi : (kdF u0 h).length - 1 < (kdF u0 h).length := by omega
  have hk := u32s_at hi
  have hstk : Stk #[Value.int .u32 ((kdF u0 h).getD ((kdF u0 h).length - 1) 0)] [(kdF u0 h).getD ((kdF u0 h).length - 1) 0] := ⟨Nat.le_refl _, fun i hi => by
    obtain rfl : i = 0 := by simpa using hi
    rfl⟩
  have hlast : (kdF u0 h).drop ((kdF u0 h).length - 1) = [(kdF u0 h).getD ((kdF u0 h).length - 1) 0] := by
    rw [List.drop_eq_getElem_cons hi, List.drop_eq_nil_of_le (by omega), List.getD_eq_getElem?_getD, List.getElem?_eq_getElem hi]
    rfl
  refine past_vc Ecn_ok 1000 (cVI ts h u0 _ _ _ (cuN ts h u0 [h]) zT (cuN ts h u0 (UNL u0 h)) 0
    (fun u z n c => (u = cuN ts h u0 [h] ∧ z = zT) ∧ n = 1 ∧ (kdF u0 h).length = 1 ∧ c = #[Value.int .u32 ((kdF u0 h).getD ((kdF u0 h).length - 1) 0)])
    (fun i u z n c => i = (((kdF u0 h).length - 2 : Nat) : Int) ∧ (u = cuN ts h u0 [h] ∧ z = zT) ∧ n = 1 ∧ 2 ≤ (kdF u0 h).length ∧ c = #[Value.int .u32 ((kdF u0 h).getD ((kdF u0 h).length - 1) 0)])) ?_ (fun _ _ h => h)
    (fun fs m hg => cAB_good (fun u z n c ⟨⟨e1, e2⟩, e3, e4, e5⟩ => ?_) (fun i u z n c ⟨e0, ⟨e1, e2⟩, e3, e4, e5⟩ => ?_) hg)
  · have e : ari .sub .i64 (((kdF u0 h).length - 1 : Nat) : Int) 1 = (((kdF u0 h).length - 1 : Nat) : Int) - 1 := i64_sub1 ⟨by omega, by omega⟩
    have g1 : IsInt .u32 (u32s (kdF u0 h)) ((kdF u0 h).length - 1) := isI_of hk
    have g2 : intAt (u32s (kdF u0 h)) ((kdF u0 h).length - 1) = (kdF u0 h).getD ((kdF u0 h).length - 1) 0 := intAt_of hk
    have y0 : 0 ≤ (((kdF u0 h).length - 1 : Nat) : Int) := by omega
    have y1 : (((kdF u0 h).length - 1 : Nat) : Int) < ((kdF u0 h).length : Int) := by omega
    have t1 : TodoOk (ren 0 [(0, 0), (1, 1), (2, 2), (3, 3), (4, 4), (5, 5), (7, 7), (8, 8), (9, 16), (10, 10), (60, 11), (61, 12), (63, 14), (20, 13)]) cB_d1 cI_d1 := TodoOk.rf2 rfl (by kernel_rfl)
    have t2 : TodoOk (ren 0 [(0, 0), (1, 1), (2, 2), (3, 3), (4, 4), (5, 5), (7, 7), (8, 8), (9, 16), (10, 10), (60, 11), (61, 12), (63, 14), (20, 13)]) cA_d1 cA_d1 := TodoOk.rf rfl (by kernel_rfl)
    have t3 : TodoOk (ren 0 [(0, 0), (1, 1), (2, 2), (3, 3), (4, 4), (5, 5), (7, 7), (8, 8), (9, 16), (10, 10), (20, 13)]) cA_d1 cA_d1 := TodoOk.rf rfl (by kernel_rfl)
    simp only [e, Int.toNat_natCast, Nat.mul_one, Nat.zero_add, g1, g2, y0, y1, t1, t2, t3, EqL_self, and_true, true_and, cA_d0_ok, cB_d0_ok]
    refine ⟨fun k => ?_, fun k => ?_⟩
    · have := of_decide_eq_true k
      exact ⟨by omega, by omega⟩
    · have := of_decide_eq_false k
      omega
  · rw [e1, e2, e3, e5]
    have hx : (kdF u0 h).reverse = [(kdF u0 h).getD ((kdF u0 h).length - 1) 0] := by
      have := hlast
      rw [e4] at this ⊢
      have hd : (kdF u0 h).drop (1 - 1) = kdF u0 h := rfl
      rw [hd] at this
      rw [this]
      rfl
    have := hA _ (by rw [List.nil_append, hx]; exact hstk)
    rw [List.nil_append, hx] at this
    exact this
  · rw [e0, e1, e2, e3, e5]
    have hd : (kdF u0 h).length - 2 + 1 = (kdF u0 h).length - 1 := by omega
    have := cB_ok (ts := ts) (h := h) (u0 := u0) (O := (cuN ts h u0 (UNL u0 h))) (X := 0) (j := 0) (us := cuN ts h u0 [h]) (zz := zT) (st0 := []) (K := kdF u0 h) (by omega) hkl (Nat.zero_le _) hA ((kdF u0 h).length - 2) #[Value.int .u32 ((kdF u0 h).getD ((kdF u0 h).length - 1) 0)] (by omega) (by rw [hd, hlast]; exact hstk)
    rw [hd, hlast] at this
    exact this
theorem zero_bad (ts : Array Value) : gdF ts 0 = false := rfl
theorem cut_in (hf : FIn ts) (hg : gdF ts h = true) : FIn (raS ts h 0) ∧ bkB (raS ts h 0) = bkB ts ∧ (∀ x ∈ lvT ts, depL (upF (raS ts h 0)) x ≤ depL (upF ts) x) ∧ (∀ x, x = 0 ∨ x ∈ lvT ts → (h ∈ chL (upF (raS ts h 0)) x ↔ h ∈ chL (upF ts) x)) ∧ (∀ x, x = 0 ∨ x ∈ lvT ts → h ∈ chL (upF ts) x → rtL (upF (raS ts h 0)) x = h) := by
  have hb := hf.ok
  obtain ⟨r1, r2, r3, r4, r5⟩ := raS_f (u := 0) hb hg ⟨by decide, by decide⟩
  have hl := (lv_mem hb).2 hg
  have h0 : upF (raS ts h 0) h = 0 := by
    unfold upF
    rw [r3, zero_bad]
    simp
  have hu : ∀ x ∈ lvT ts, x ≠ h → upF (raS ts h 0) x = upF ts x := fun x hx hne => up_bk r2 (r4 x ((lv_mem hb).1 hx) hne)
  obtain ⟨c1, c2, c3, c4⟩ := cut_ch hf.fo hl h0 hu
  exact ⟨⟨r1, by rw [lv_bk r2]; exact c1⟩, r2, c2, c3, c4⟩
def cutT (ts : Array Value) (h : Int) : Array Value := if gdF ts h = true then cuN ts h (raS ts h 0) (UNL (raS ts h 0) h) else ts
def cutE (ts : Array Value) (h : Int) : Int := if gdF ts h = true then 0 else 4
theorem fnCut : E0.fn 6 = some Tryd.f6 := by kernel_rfl
theorem bodyCut : Tryd.f6.body = some (Tryd.f6.body.getD .skip) := by kernel_rfl
theorem cut_con (h : Int) (m : SMem) : Con E0 6 [tbS ts, u32 h] m (needs [FIn ts, inH h] (.ret (rgS (cutT ts h) (cutE ts h)) m)) := by
  refine Con.pure E0_ok fnCut bodyCut (by kernel_rfl) (by kernel_rfl) fun hq => ?_
  have hf : FIn ts := hq _ (by simp)
  have hb := hf.ok
  have hh : inH h := hq _ (by simp)
  have hh' : 0 ≤ h ∧ h < 4294967296 := hh
  have hs := hb.sz
  have n00 : ¬ ((0 : Int) ≠ 0 ∧ gdF ts 0 = false) := fun k => k.1 rfl
  have y4 : (0 : Int) < 4294967296 := by decide
  have y5 : (0 : Int) ≤ 0 := by decide
  refine (Good.ret [] (run_vc Ec0_ok 1000 (cV0 ts h (raS ts h 0) (kdF (raS ts h 0) h).length (u32s (kdF (raS ts h 0) h)) (cutT ts h) (cutE ts h) (fun i u z => i = (((kdF (raS ts h 0) h).length - 1 : Nat) : Int) ∧ u = cuN ts h (raS ts h 0) [h] ∧ z = zT ∧ kdF (raS ts h 0) h ≠ [] ∧ gdF ts h = true)) ?_ (fun s m h => h) fun fs m hm => cI_good (fun i u z ⟨e, e1, e2, e3, hg⟩ => by
    rw [e, e1, e2]
    obtain ⟨k1, k2, _⟩ := cut_in hf hg
    have hl : h ∈ lvT (raS ts h 0) := by rw [lv_bk k2]; exact (lv_mem hb).2 hg
    have eT : cutT ts h = cuN ts h (raS ts h 0) (UNL (raS ts h 0) h) := if_pos hg
    have eE : cutE ts h = 0 := if_pos hg
    rw [eT, eE]
    exact cI_ok k1 hf hl e3) hm)).mono fun _ _ h => h.1
  cases hg : gdF ts h with
  | false =>
    have e1 : raE ts h 0 = 4 := by unfold raE; rw [if_pos (.inl hg)]
    have e2 : raT ts h 0 = ts := by unfold raT; rw [if_neg (by rw [e1]; decide)]
    have e3 : cutT ts h = ts := by unfold cutT; rw [hg]; rfl
    have e4 : cutE ts h = 4 := by unfold cutE; rw [hg]; rfl
    have d : ((4 : Int) != 0) = true := rfl
    simp only [e1, e2, e3, e4, d, hs, hf, hh', y4, y5, true_implies, Bool.true_eq_false, Bool.false_eq_true, false_implies, and_true, true_and]
  | true =>
    have e1 : raE ts h 0 = 0 := by
      unfold raE
      rw [if_neg (by rintro (k | k); · rw [hg] at k; cases k
                     · exact n00 k), ch_zero, if_neg (by simp)]
    have e2 : raT ts h 0 = raS ts h 0 := by unfold raT; rw [if_pos e1]
    have eT : cutT ts h = cuN ts h (raS ts h 0) (UNL (raS ts h 0) h) := if_pos hg
    have eE : cutE ts h = 0 := if_pos hg
    have d : ((0 : Int) != 0) = false := rfl
    obtain ⟨k1, k2, _⟩ := cut_in hf hg
    have hgu : gdF (raS ts h 0) h = true := by rw [gd_bk k2]; exact hg
    have hgu' : goodB (bkB (raS ts h 0)) h = true := hgu
    have hl : h ∈ lvT (raS ts h 0) := (lv_mem k1.ok).2 hgu
    have hs2 := k1.ok.sz
    have hb2 := k1.ok
    have hbk : BkOk (bkB (raS ts h 0)) := hb2.bk
    have h64 : (64 : Nat) ≤ 448 := by decide
    have hs3 := (em_f (ts := ts) (h := h) hb2 hgu).1.sz
    have eo : emT (raS ts h 0) ts h h = cuN ts h (raS ts h 0) [h] := rfl
    have hs4 : (cuN ts h (raS ts h 0) [h]).size = 448 := hs3
    have hkl := kd_len (raS ts h 0) h
    have kd := kdF_eq k1 hl
    simp only [bk_f, e1, e2, eT, eE, eo, d, hg, hgu, hgu', hs, hs2, hs3, hs4, hb2, hbk, h64, hf, hh', y4, y5, EqL_self, Bool.not_true, true_implies, Bool.true_eq_false, Bool.false_eq_true, false_implies, and_true, true_and]
    constructor
    · intro k
      have ek := List.eq_nil_of_length_eq_zero (of_decide_eq_true k)
      rw [unl_cons k1 hl, ← kd, ek]
      rfl
    · intro k
      have hne : kdF (raS ts h 0) h ≠ [] := fun e => of_decide_eq_false k (by rw [e]; rfl)
      have hp := List.length_pos_iff.2 hne
      have e5 : ari .sub .i64 ((kdF (raS ts h 0) h).length : Int) 1 = (((kdF (raS ts h 0) h).length - 1 : Nat) : Int) := by rw [i64_sub1 ⟨by omega, by omega⟩]; omega
      have d5 : decide ((((kdF (raS ts h 0) h).length - 1 : Nat) : Int) ≥ 0) = true := decide_eq_true (by omega)
      simp only [e5, d5, true_implies, Bool.true_eq_false, false_implies, and_true, true_and, cA_d1_ok0, cB_d0_ok, cI_d1_ok0]
      first | exact hne | exact ⟨hne, TodoOk.rf rfl (by kernel_rfl)⟩
end
end Go.Proofs.YtldoopjnjlpbpaaDoor
/- Of forests: Graft: its contract. No condition. -/
namespace Go.Proofs.YtldoopjnjlpbpaaDoor
set_option maxRecDepth 100000
set_option linter.unusedSimpArgs false
set_option linter.unusedVariables false
section
variable {ts : Array Value} {h up : Int}
theorem gI_ok (hf : FIn ts) (hh : h ∈ lvT ts) (hu : inH up) (hsr : (raT ts h up).size = 448) (h6 : depF ts h + depF ts up ≤ 6) {O : Array Value} {X : Int} (hgood : (∀ y ∈ UNL ts h, depF ts y + depF ts up ≤ 6) → O = raT ts h up ∧ X = raE ts h up) (hbad : ∀ y ∈ UNL ts h, ¬ depF ts y + depF ts up ≤ 6 → O = ts ∧ X = 8) (hne : kdF ts h ≠ []) : Good Tryd.prog (retOk 0 [] (rgS O X) e0M) 0 (gI_F ts h up (kdF ts h).length (u32s (kdF ts h)) (((kdF ts h).length - 1 : Nat) : Int) zT) (gI_M ts h up (kdF ts h).length (u32s (kdF ts h)) (((kdF ts h).length - 1 : Nat) : Int) zT) := by
  have hp := List.length_pos_iff.2 hne
  have hkl := kd_len ts h
  have kd := kdF_eq hf hh
  have hsum : [h] ++ (([] : List Int) ++ (kdF ts h).reverse).reverse.flatMap (UNL ts) = UNL ts h := by
    rw [List.nil_append, List.reverse_reverse, kd, unl_cons hf hh]
    rfl
  have hA : ∀ cs, Stk cs (([] : List Int) ++ (kdF ts h).reverse) → Good Tryd.prog (retOk 0 [] (rgS O X) e0M) 0 (gA_F (0 + 1) ts h up zT (([] : List Int) ++ (kdF ts h).reverse).length cs) (gA_M (0 + 1) ts h up zT (([] : List Int) ++ (kdF ts h).reverse).length cs) := fun cs hc =>
    gA_ok hf (lv_in hf.ok (.inr hh)) hu hsr hh zT_sz hgood hbad _ [h] _ cs (Nat.lt_succ_self _) (fun e => hne (by simpa using e)) hc (fun y hy => by
      rw [List.nil_append] at hy
      have hy := List.mem_reverse.1 hy
      rw [kd] at hy
      exact (kids_memL.1 hy).1) (fun y hy => by rw [List.mem_singleton.1 hy]; exact h6) hsum
  have hi : (kdF ts h).length - 1 < (kdF ts h).length := by omega
  have hk := u32s_at hi
  have hstk : Stk #[Value.int .u32 ((kdF ts h).getD ((kdF ts h).length - 1) 0)] [(kdF ts h).getD ((kdF ts h).length - 1) 0] := ⟨Nat.le_refl _, fun i hi => by
    obtain rfl : i = 0 := by simpa using hi
    rfl⟩
  have hlast : (kdF ts h).drop ((kdF ts h).length - 1) = [(kdF ts h).getD ((kdF ts h).length - 1) 0] := by
    rw [List.drop_eq_getElem_cons hi, List.drop_eq_nil_of_le (by omega), List.getD_eq_getElem?_getD, List.getElem?_eq_getElem hi]
    rfl
  refine past_vc Egn_ok 1000 (gVI ts h up _ _ _ zT O X
    (fun z n c => (z = zT) ∧ n = 1 ∧ (kdF ts h).length = 1 ∧ c = #[Value.int .u32 ((kdF ts h).getD ((kdF ts h).length - 1) 0)])
    (fun i z n c => i = (((kdF ts h).length - 2 : Nat) : Int) ∧ (z = zT) ∧ n = 1 ∧ 2 ≤ (kdF ts h).length ∧ c = #[Value.int .u32 ((kdF ts h).getD ((kdF ts h).length - 1) 0)])) ?_ (fun _ _ h => h)
    (fun fs m hg => gAB_good (fun z n c ⟨e2, e3, e4, e5⟩ => ?_) (fun i z n c ⟨e0, e2, e3, e4, e5⟩ => ?_) hg)
  · have e : ari .sub .i64 (((kdF ts h).length - 1 : Nat) : Int) 1 = (((kdF ts h).length - 1 : Nat) : Int) - 1 := i64_sub1 ⟨by omega, by omega⟩
    have g1 : IsInt .u32 (u32s (kdF ts h)) ((kdF ts h).length - 1) := isI_of hk
    have g2 : intAt (u32s (kdF ts h)) ((kdF ts h).length - 1) = (kdF ts h).getD ((kdF ts h).length - 1) 0 := intAt_of hk
    have y0 : 0 ≤ (((kdF ts h).length - 1 : Nat) : Int) := by omega
    have y1 : (((kdF ts h).length - 1 : Nat) : Int) < ((kdF ts h).length : Int) := by omega
    have t1 : TodoOk (ren 0 [(0, 0), (1, 1), (2, 2), (3, 3), (4, 4), (6, 6), (7, 7), (8, 15), (9, 9), (60, 10), (61, 11), (63, 13), (20, 12)]) gB_d1 gI_d1 := TodoOk.rf2 rfl (by kernel_rfl)
    have t2 : TodoOk (ren 0 [(0, 0), (1, 1), (2, 2), (3, 3), (4, 4), (6, 6), (7, 7), (8, 15), (9, 9), (60, 10), (61, 11), (63, 13), (20, 12)]) gA_d1 gA_d1 := TodoOk.rf rfl (by kernel_rfl)
    have t3 : TodoOk (ren 0 [(0, 0), (1, 1), (2, 2), (3, 3), (4, 4), (6, 6), (7, 7), (8, 15), (9, 9), (20, 12)]) gA_d1 gA_d1 := TodoOk.rf rfl (by kernel_rfl)
    simp only [e, Int.toNat_natCast, Nat.mul_one, Nat.zero_add, g1, g2, y0, y1, t1, t2, t3, EqL_self, and_true, true_and, gA_d0_ok, gB_d0_ok]
    refine ⟨fun k => ?_, fun k => ?_⟩
    · have := of_decide_eq_true k
      exact ⟨by omega, by omega⟩
    · have := of_decide_eq_false k
      omega
  · rw [e2, e3, e5]
    have hx : (kdF ts h).reverse = [(kdF ts h).getD ((kdF ts h).length - 1) 0] := by
      have := hlast
      rw [e4] at this ⊢
      have hd : (kdF ts h).drop (1 - 1) = kdF ts h := rfl
      rw [hd] at this
      rw [this]
      rfl
    have := hA _ (by rw [List.nil_append, hx]; exact hstk)
    rw [List.nil_append, hx] at this
    exact this
  · rw [e0, e2, e3, e5]
    have hd : (kdF ts h).length - 2 + 1 = (kdF ts h).length - 1 := by omega
    have := gB_ok (ts := ts) (h := h) (up := up) (O := O) (X := X) (j := 0) (zz := zT) (st0 := []) (K := kdF ts h) (by omega) hkl (Nat.zero_le _) hA ((kdF ts h).length - 2) #[Value.int .u32 ((kdF ts h).getD ((kdF ts h).length - 1) 0)] (by omega) (by rw [hd, hlast]; exact hstk)
    rw [hd, hlast] at this
    exact this
def gr6 (ts : Array Value) (h up : Int) : Prop := ∀ y ∈ UNL ts h, depF ts y + depF ts up ≤ 6
open Classical in
noncomputable def grE (ts : Array Value) (h up : Int) : Int := if gdF ts h = false ∨ gdF ts up = false then 4 else if rtF ts h ≠ h ∨ outF ts h up = true then 12 else if gr6 ts h up then 0 else 8
noncomputable def grT (ts : Array Value) (h up : Int) : Array Value := if grE ts h up = 0 then raS ts h up else ts
theorem fnGr : E0.fn 11 = some Tryd.f11 := by kernel_rfl
theorem bodyGr : Tryd.f11.body = some (Tryd.f11.body.getD .skip) := by kernel_rfl
theorem graft_con (h up : Int) (m : SMem) : Con E0 11 [tbS ts, u32 h, u32 up] m (needs [FIn ts, inH h, inH up] (.ret (rgS (grT ts h up) (grE ts h up)) m)) := by
  refine Con.pure E0_ok fnGr bodyGr (by kernel_rfl) (by kernel_rfl) fun hq => ?_
  have hf : FIn ts := hq _ (by simp)
  have hb := hf.ok
  have hh : inH h := hq _ (by simp)
  have hu : inH up := hq _ (by simp)
  have hh' : 0 ≤ h ∧ h < 4294967296 := hh
  have hu' : 0 ≤ up ∧ up < 4294967296 := hu
  have hs := hb.sz
  have hbk : BkOk (bkB ts) := hb.bk
  have h64 : (64 : Nat) ≤ 448 := by decide
  have hd1 := dep_13 hf h
  have hd2 := dep_13 hf up
  have ed : ari .add .i64 ((depF ts h : Nat) : Int) ((depF ts up : Nat) : Int) = ((depF ts h + depF ts up : Nat) : Int) := by rw [ari_add, i64_in' (by omega) (by omega)]; omega
  have main : gdF ts h = true → gdF ts up = true → rtF ts h = h → outF ts h up = false → raE ts h up = 0 ∧ raT ts h up = raS ts h up ∧ (raT ts h up).size = 448 := fun hg hgu hr ho => by
    have n1 : ¬ (gdF ts h = false ∨ (up ≠ 0 ∧ gdF ts up = false)) := by
      rintro (k | k)
      · rw [hg] at k; cases k
      · rw [hgu] at k; cases k.2
    have n2 : h ∉ chL (upF ts) up := fun k => by
      unfold outF at ho
      rw [hgu, decide_eq_true k] at ho
      cases ho
    have e1 : raE ts h up = 0 := by unfold raE; rw [if_neg n1, if_neg n2]
    have e2 : raT ts h up = raS ts h up := by unfold raT; rw [if_pos e1]
    exact ⟨e1, e2, by rw [e2]; exact (raS_f hb hg hu).1.sz⟩
  have good : gdF ts h = true → gdF ts up = true → rtF ts h = h → outF ts h up = false → gr6 ts h up → grT ts h up = raT ts h up ∧ grE ts h up = raE ts h up := fun hg hgu hr ho h6 => by
    obtain ⟨e1, e2, _⟩ := main hg hgu hr ho
    have e3 : grE ts h up = 0 := by
      unfold grE
      rw [if_neg (by rintro (k | k); · rw [hg] at k; cases k
                     · rw [hgu] at k; cases k), if_neg (by rintro (k | k); · exact k hr
                                                           · rw [ho] at k; cases k), if_pos h6]
    exact ⟨by unfold grT; rw [if_pos e3, e2], by rw [e3, e1]⟩
  have bad : gdF ts h = true → gdF ts up = true → rtF ts h = h → outF ts h up = false → ¬ gr6 ts h up → grT ts h up = ts ∧ grE ts h up = 8 := fun hg hgu hr ho h6 => by
    have e3 : grE ts h up = 8 := by
      unfold grE
      rw [if_neg (by rintro (k | k); · rw [hg] at k; cases k
                     · rw [hgu] at k; cases k), if_neg (by rintro (k | k); · exact k hr
                                                           · rw [ho] at k; cases k), if_neg h6]
    exact ⟨by unfold grT; rw [if_neg (by rw [e3]; decide)], e3⟩
  refine (Good.ret [] (run_vc Eg0_ok 1000 (gV0 ts h up (kdF ts h).length (u32s (kdF ts h)) (grT ts h up) (grE ts h up) (fun i z => i = (((kdF ts h).length - 1 : Nat) : Int) ∧ z = zT ∧ kdF ts h ≠ [] ∧ gdF ts h = true ∧ gdF ts up = true ∧ rtF ts h = h ∧ outF ts h up = false ∧ depF ts h + depF ts up ≤ 6)) ?_ (fun s m h => h) fun fs m hm => gI_good (fun i z ⟨e, e2, e3, hg, hgu, hr, ho, h6⟩ => by
    rw [e, e2]
    have hl : h ∈ lvT ts := (lv_mem hb).2 hg
    obtain ⟨m1, m2, m3⟩ := main hg hgu hr ho
    exact gI_ok hf hl hu m3 h6 (fun k => good hg hgu hr ho k) (fun y hy k => bad hg hgu hr ho fun g => k (g y hy)) e3) hm)).mono fun _ _ h => h.1
  have stale : (gdF ts h = false ∨ gdF ts up = false) → grT ts h up = ts ∧ grE ts h up = 4 := fun k => by
    have e3 : grE ts h up = 4 := by unfold grE; rw [if_pos k]
    exact ⟨by unfold grT; rw [if_neg (by rw [e3]; decide)], e3⟩
  have state : gdF ts h = true → gdF ts up = true → (rtF ts h ≠ h ∨ outF ts h up = true) → grT ts h up = ts ∧ grE ts h up = 12 := fun hg hgu k => by
    have e3 : grE ts h up = 12 := by
      unfold grE
      rw [if_neg (by rintro (k | k); · rw [hg] at k; cases k
                     · rw [hgu] at k; cases k), if_pos k]
    exact ⟨by unfold grT; rw [if_neg (by rw [e3]; decide)], e3⟩
  cases hg : gdF ts h with
  | false =>
    have hg' : goodB (bkB ts) h = false := hg
    obtain ⟨e3, e4⟩ := stale (.inl hg)
    simp only [bk_f, hg', e3, e4, hs, hbk, h64, hf, hh', hu', beqF, Bool.not_true, Bool.not_false, true_implies, Bool.true_eq_false, Bool.false_eq_true, false_implies, and_true, true_and]
  | true =>
    have hg' : goodB (bkB ts) h = true := hg
    cases hgu : gdF ts up with
    | false =>
      have hgu' : goodB (bkB ts) up = false := hgu
      obtain ⟨e3, e4⟩ := stale (.inr hgu)
      simp only [bk_f, hg', hgu', e3, e4, hs, hbk, h64, hf, hh', hu', beqF, Bool.not_true, Bool.not_false, true_implies, Bool.true_eq_false, Bool.false_eq_true, false_implies, and_true, true_and]
    | true =>
      have hgu' : goodB (bkB ts) up = true := hgu
      by_cases hr : rtF ts h = h
      rotate_left
      · have dr : (rtF ts h != h) = true := bne_iff_ne.2 hr
        obtain ⟨e3, e4⟩ := state hg hgu (.inl hr)
        simp only [bk_f, hg', hgu', dr, e3, e4, hs, hbk, h64, hf, hh', hu', beqF, Bool.not_true, Bool.not_false, true_implies, Bool.true_eq_false, Bool.false_eq_true, false_implies, and_true, true_and]
      · have dr : (rtF ts h != h) = false := by rw [hr]; exact bne_self_eq_false h
        cases ho : outF ts h up with
        | true =>
          obtain ⟨e3, e4⟩ := state hg hgu (.inr ho)
          simp only [bk_f, hg', hgu', dr, ho, e3, e4, hs, hbk, h64, hf, hh', hu', beqF, Bool.not_true, Bool.not_false, true_implies, Bool.true_eq_false, Bool.false_eq_true, false_implies, and_true, true_and]
        | false =>
          obtain ⟨m1, m2, m3⟩ := main hg hgu hr ho
          have hl : h ∈ lvT ts := (lv_mem hb).2 hg
          have kd := kdF_eq hf hl
          have hkl := kd_len ts h
          by_cases h6 : depF ts h + depF ts up ≤ 6
          rotate_left
          · have dd : decide (((depF ts h + depF ts up : Nat) : Int) > 6) = true := decide_eq_true (by omega)
            obtain ⟨e3, e4⟩ := bad hg hgu hr ho fun g => h6 (g h (by rw [unl_cons hf hl]; exact List.mem_cons_self ..))
            simp only [bk_f, hg', hgu', dr, ho, ed, dd, e3, e4, m3, hs, hbk, h64, hf, hb, hh', hu', beqF, Bool.not_true, Bool.not_false, true_implies, Bool.true_eq_false, Bool.false_eq_true, false_implies, and_true, true_and]
          · have dd : decide (((depF ts h + depF ts up : Nat) : Int) > 6) = false := decide_eq_false (by omega)
            simp only [bk_f, hg', hgu', dr, ho, ed, dd, m3, hs, hbk, h64, hf, hb, hh', hu', EqL_self, beqF, Bool.not_true, Bool.not_false, true_implies, Bool.true_eq_false, Bool.false_eq_true, false_implies, and_true, true_and]
            constructor
            · intro k
              have ek := List.eq_nil_of_length_eq_zero (of_decide_eq_true k)
              have eU : UNL ts h = [h] := by rw [unl_cons hf hl, ← kd, ek]; rfl
              exact good hg hgu hr ho fun y hy => by
                rw [eU] at hy
                rw [List.mem_singleton.1 hy]; exact h6
            · intro k
              have hne : kdF ts h ≠ [] := fun e => of_decide_eq_false k (by rw [e]; rfl)
              have hp := List.length_pos_iff.2 hne
              have e5 : ari .sub .i64 ((kdF ts h).length : Int) 1 = (((kdF ts h).length - 1 : Nat) : Int) := by rw [i64_sub1 ⟨by omega, by omega⟩]; omega
              have d5 : decide ((((kdF ts h).length - 1 : Nat) : Int) ≥ 0) = true := decide_eq_true (by omega)
              simp only [e5, d5, true_implies, Bool.true_eq_false, false_implies, and_true, true_and, gA_d1_ok0, gB_d0_ok, gI_d1_ok0]
              first | exact ⟨hne, hr, h6⟩ | exact ⟨⟨hne, hr, h6⟩, TodoOk.rf rfl (by kernel_rfl)⟩ | exact ⟨⟨hne, hg, hgu, hr, ho, h6⟩, TodoOk.rf rfl (by kernel_rfl)⟩
end
end Go.Proofs.YtldoopjnjlpbpaaDoor
/- Of forests: Fell, New, All; whether a forest is whole: states. No condition. -/
namespace Go.Proofs.YtldoopjnjlpbpaaDoor
set_option linter.unusedVariables false
noncomputable def conT5 (g : FuncId) (l : List SV) (m : SMem) : Option Tree := match g, l with
 | 6, [.s (.agg (.op ts)), .s (.c (.f (.int .u32 h)))] => some (.need [FIn ts, inH h.den] (.ret (rgS (cutT ts h.den) (cutE ts h.den)) m))
 | 11, [.s (.agg (.op ts)), .s (.c (.f (.int .u32 h))), .s (.c (.f (.int .u32 u)))] => some (.need [FIn ts, inH h.den, inH u.den] (.ret (rgS (grT ts h.den u.den) (grE ts h.den u.den)) m))
 | 39, [.s (.agg (.op ts))] => some (.need [TbOk ts] (rowT (lvT ts) 30 m))
 | g, l => conT4 g l m
noncomputable def E50 : Env := ⟨Tryd.prog, fnOf, conT4, haltAt [5 * 1000 + 5]⟩
noncomputable def fellS (o : Array Value) (i n : Nat) : SV := .tup [.agg (.op o), .c (.f (.slice i (.l 0) (.o n) (.full 1))), .c (.f (.int .i64 (.o 0)))]
noncomputable def fellA (o : Array Value) (n : Nat) (rs : Array Value) (s : SV) (m : SMem) : Prop := match s with | .tup [_, .c (.f (.slice i _ _ _)), _] => retOk 0 [(0, i)] (fellS o 0 n) (mkM 1 [(0, ⟨.pop rs, 30, true⟩)]) s m | _ => False
noncomputable def fellN (ts : Array Value) : SV := .tup [.agg (.op ts), .c (.f (.lit (.slice none 0 0))), .c (.f (.int .i64 (.o 4)))]
noncomputable def fL_d0 : List SIt := sekF Tryd.f5 5
noncomputable def fL_F (h : Int) (n : Nat) (rs : Array Value) (i : Int) (us : Array Value) (zz : Array Value) : List SFr := [frOf 5 Tryd.f5 [(2, ptr 0 (.l 0)), (4, ptr 1 (.l 0)), (7, slS 2 n), (19, slS 2 n), (20, i64 (.o (n : Int))), (21, i64 (.o i))] fL_d0]
noncomputable def fL_M (h : Int) (n : Nat) (rs : Array Value) (i : Int) (us : Array Value) (zz : Array Value) : SMem := mkM 3 [(0, ⟨.op us, 39, true⟩), (1, ⟨.op zz, 39, true⟩), (2, ⟨.pop rs, 30, true⟩)]
noncomputable def fL_n (h : Int) (n : Nat) (rs : Array Value) (Q : Int → Array Value → Array Value → Prop) (fs : List SFr) (m : SMem) : Prop := (match frNth fs 0 with | some f0 => (match rdI f0 21 with | some i => (match rdP f0 2 with | some p0 => (match rdP f0 4 with | some p1 => (match rdSI f0 7 with | some p2 => (match rdA m p0 with | some us => (match rdA m p1 with | some zz => Q i us zz ∧ subOk 0 [(0, p0), (1, p1), (2, p2)] (fL_F h n rs i us zz) (fL_M h n rs i us zz) fs m | none => False) | none => False) | none => False) | none => False) | none => False) | none => False) | none => False)
noncomputable def fl0_t (ts : Array Value) (h : Int) (n : Nat) (rs : Array Value) : Tree := run E50 1000 0 [callFr 5 Tryd.f5.ntmps [tbS ts, u32 h] (Tryd.f5.body.getD .skip)] e0M
noncomputable def fl0_x (ts : Array Value) (h : Int) (n : Nat) (rs : Array Value) (QfL : Int → Array Value → Array Value → Prop) (fs : List SFr) (m : SMem) : Prop := fL_n h n rs QfL fs m
noncomputable def fl1_t (h : Int) (n : Nat) (rs : Array Value) (i : Int) (us : Array Value) (zz : Array Value) : Tree := stepT E50.go (run E50 1000) 0 (fL_F h n rs i us zz) (fL_M h n rs i us zz)
noncomputable def fl1_x (h : Int) (n : Nat) (rs : Array Value) (i : Int) (us : Array Value) (zz : Array Value) (QfL : Int → Array Value → Array Value → Prop) (fs : List SFr) (m : SMem) : Prop := fL_n h n rs QfL fs m
theorem fL_d0_ok (r : Nat → Option Nat) : TodoOk r fL_d0 fL_d0 := TodoOk.it (by kernel_rfl)
theorem fL_good {A : SV → SMem → Prop} {h : Int} {n : Nat} {rs : Array Value} {Q : Int → Array Value → Array Value → Prop} {fs : List SFr} {m : SMem} (H : ∀ i us zz, Q i us zz → Good Tryd.prog A 0 (fL_F h n rs i us zz) (fL_M h n rs i us zz)) (hb : fL_n h n rs Q fs m) : Good Tryd.prog A 0 fs m := by
 unfold fL_n at hb
 split at hb
 rotate_left
 ·exact hb.elim
 split at hb
 rotate_left
 ·exact hb.elim
 split at hb
 rotate_left
 ·exact hb.elim
 split at hb
 rotate_left
 ·exact hb.elim
 split at hb
 rotate_left
 ·exact hb.elim
 split at hb
 rotate_left
 ·exact hb.elim
 split at hb
 rotate_left
 ·exact hb.elim
 exact Good.of_sub hb.2 (H _ _ _ hb.1)
theorem fl0_go {A : SV → SMem → Prop} {ts : Array Value} {h : Int} {n : Nat} {rs : Array Value} {QfL : Int → Array Value → Array Value → Prop} {fs : List SFr} {m : SMem} (hfL : ∀ i' us' zz', QfL i' us' zz' → Good Tryd.prog A 0 (fL_F h n rs i' us' zz') (fL_M h n rs i' us' zz')) (hb : fl0_x ts h n rs QfL fs m) : Good Tryd.prog A 0 fs m := by
 unfold fl0_x at hb
 exact fL_good hfL hb
theorem fl1_go {A : SV → SMem → Prop} {h : Int} {n : Nat} {rs : Array Value} {i : Int} {us : Array Value} {zz : Array Value} {QfL : Int → Array Value → Array Value → Prop} {fs : List SFr} {m : SMem} (hfL : ∀ i' us' zz', QfL i' us' zz' → Good Tryd.prog A 0 (fL_F h n rs i' us' zz') (fL_M h n rs i' us' zz')) (hb : fl1_x h n rs i us zz QfL fs m) : Good Tryd.prog A 0 fs m := by
 unfold fl1_x at hb
 exact fL_good hfL hb
end Go.Proofs.YtldoopjnjlpbpaaDoor
/- Of forests: Fell, New, All; whether a forest is whole: states. -/
namespace Go.Proofs.YtldoopjnjlpbpaaDoor
set_option maxRecDepth 100000
theorem flN (ts : Array Value) (h : Int) (n : Nat) (rs : Array Value) (Q : Int → Array Value → Array Value → Prop) : (fl0_t ts h n rs).vc (retOk 0 [] (fellN ts) e0M) (fl0_x ts h n rs Q) =
  (((64 : Nat) ≤ Array.size ts ∧ True) ∧ (BkOk (Array.extract ts (0 : Nat) (64 : Nat)) ∧ ((0 : Int) ≤ h ∧ h < (4294967296 : Int)) ∧ True) ∧ ((!goodB (Array.extract ts (0 : Nat) (64 : Nat)) h) = true → (Array.size ts = (448 : Nat) ∧ True) ∧ (Array.size ts = (448 : Nat) ∧ Array.size ts = (448 : Nat) ∧ True) ∧ (Array.size ts = (448 : Nat) ∧ True) ∧ ts = ts ∧ Value.slice none (0 : Nat) (0 : Nat) = Value.slice none (0 : Nat) (0 : Nat) ∧ (4 : Int) = (4 : Int) ∧ True) ∧ ((!goodB (Array.extract ts (0 : Nat) (64 : Nat)) h) = false → (Array.size ts = (448 : Nat) ∧ True) ∧ (FIn ts ∧ ((0 : Int) ≤ h ∧ h < (4294967296 : Int)) ∧ True) ∧ (decide (List.length (unT ts h) = (0 : Nat)) = true → False) ∧ (decide (List.length (unT ts h) = (0 : Nat)) = false → Q (0 : Int) ts zT ∧ CallKind.normal = CallKind.normal ∧ TodoOk (ren 0 [(0, 0), (1, 1), (2, 2)]) fL_d0 fL_d0 ∧ n = List.length (unT ts h) ∧ n = List.length (unT ts h) ∧ (0 : Int) = (0 : Int) ∧ (↑n : Int) = (↑(List.length (unT ts h)) : Int) ∧ (39 : TypeId) = (39 : Nat) ∧ ts = ts ∧ (39 : TypeId) = (39 : Nat) ∧ zT = zT ∧ (30 : TypeId) = (30 : TypeId) ∧ rs = u32s (unT ts h) ∧ True))) := by kernel_rfl
theorem flF0 (ts : Array Value) (h : Int) (n : Nat) (rs : Array Value) (o : Array Value) (Q : Int → Array Value → Array Value → Prop) : (fl0_t ts h n rs).vc (fellA o n rs) (fl0_x ts h n rs Q) =
  (((64 : Nat) ≤ Array.size ts ∧ True) ∧ (BkOk (Array.extract ts (0 : Nat) (64 : Nat)) ∧ ((0 : Int) ≤ h ∧ h < (4294967296 : Int)) ∧ True) ∧ ((!goodB (Array.extract ts (0 : Nat) (64 : Nat)) h) = true → (Array.size ts = (448 : Nat) ∧ True) ∧ (Array.size ts = (448 : Nat) ∧ Array.size ts = (448 : Nat) ∧ True) ∧ (Array.size ts = (448 : Nat) ∧ True) ∧ False) ∧ ((!goodB (Array.extract ts (0 : Nat) (64 : Nat)) h) = false → (Array.size ts = (448 : Nat) ∧ True) ∧ (FIn ts ∧ ((0 : Int) ≤ h ∧ h < (4294967296 : Int)) ∧ True) ∧ (decide (List.length (unT ts h) = (0 : Nat)) = true → False) ∧ (decide (List.length (unT ts h) = (0 : Nat)) = false → Q (0 : Int) ts zT ∧ CallKind.normal = CallKind.normal ∧ TodoOk (ren 0 [(0, 0), (1, 1), (2, 2)]) fL_d0 fL_d0 ∧ n = List.length (unT ts h) ∧ n = List.length (unT ts h) ∧ (0 : Int) = (0 : Int) ∧ (↑n : Int) = (↑(List.length (unT ts h)) : Int) ∧ (39 : TypeId) = (39 : Nat) ∧ ts = ts ∧ (39 : TypeId) = (39 : Nat) ∧ zT = zT ∧ (30 : TypeId) = (30 : TypeId) ∧ rs = u32s (unT ts h) ∧ True))) := by kernel_rfl
theorem flF (h : Int) (n : Nat) (rs : Array Value) (i : Int) (us zz o : Array Value) (Q : Int → Array Value → Array Value → Prop) : (fl1_t h n rs i us zz).vc (fellA o n rs) (fl1_x h n rs i us zz Q) =
  ((decide (i < (↑n : Int)) = true → (((0 : Int) ≤ i ∧ i < (↑n : Int)) ∧ True) ∧ (IsInt IntKind.u32 rs ((0 : Nat) + Int.toNat i * 1) ∧ True) ∧ (Array.size us = (448 : Nat) ∧ True) ∧ (TbOk us ∧ ((0 : Int) ≤ intAt rs ((0 : Nat) + Int.toNat i * 1) ∧ intAt rs ((0 : Nat) + Int.toNat i * 1) < (4294967296 : Int)) ∧ True) ∧ (Array.size (dropT us (intAt rs ((0 : Nat) + Int.toNat i * 1))) = (448 : Nat) ∧ Array.size (dropT us (intAt rs ((0 : Nat) + Int.toNat i * 1))) = Array.size us ∧ True) ∧ Q (ari BinOp.add IntKind.i64 i (1 : Int)) (dropT us (intAt rs ((0 : Nat) + Int.toNat i * 1))) zz ∧ CallKind.normal = CallKind.normal ∧ TodoOk (ren 0 [(0, 0), (1, 1), (2, 2)]) fL_d0 fL_d0 ∧ n = n ∧ n = n ∧ ari BinOp.add IntKind.i64 i (1 : Int) = ari BinOp.add IntKind.i64 i (1 : Int) ∧ (↑n : Int) = (↑n : Int) ∧ (39 : TypeId) = (39 : TypeId) ∧ dropT us (intAt rs ((0 : Nat) + Int.toNat i * 1)) = dropT us (intAt rs ((0 : Nat) + Int.toNat i * 1)) ∧ (39 : TypeId) = (39 : TypeId) ∧ zz = zz ∧ (30 : TypeId) = (30 : TypeId) ∧ rs = rs ∧ True) ∧ (decide (i < (↑n : Int)) = false → (Array.size us = (448 : Nat) ∧ True) ∧ (Array.size us = (448 : Nat) ∧ Array.size us = Array.size zz ∧ True) ∧ (Array.size us = (448 : Nat) ∧ True) ∧ o = us ∧ n = n ∧ (0 : Int) = (0 : Int) ∧ (30 : TypeId) = (30 : TypeId) ∧ rs = rs ∧ True)) := by kernel_rfl
theorem fn0 (ts : Array Value) (u q : Int) (o : Array Value) (k e : Int) : (run E50 1000 0 [callFr 17 Tryd.f17.ntmps [tbS ts, u32 u, i64 (.o q)] (Tryd.f17.body.getD .skip)] e0M).vc (retOk 0 [] (.tup [.agg (.op o), .c (.f (.int .u32 (.o k))), .c (.f (.int .i64 (.o e)))]) e0M) (fun _ _ => False) =
  ((Array.size ts = (448 : Nat) ∧ True) ∧ (TbOk ts ∧ ((0 : Int) ≤ u ∧ u < (4294967296 : Int)) ∧ True) ∧ (Array.size (newT ts u q) = (448 : Nat) ∧ Array.size (newT ts u q) = (448 : Nat) ∧ True) ∧ (((newE ts u q == (0 : Int)) == false) = true → (((newE ts u q == (7 : Int)) == true) = true → (Array.size ts = (448 : Nat) ∧ True) ∧ (FIn ts ∧ ((0 : Int) ≤ u ∧ u < (4294967296 : Int)) ∧ True) ∧ (decide ((↑(depF ts u) : Int) ≥ (6 : Int)) = true → (Array.size ts = (448 : Nat) ∧ True) ∧ (Array.size ts = (448 : Nat) ∧ Array.size ts = (448 : Nat) ∧ True) ∧ (Array.size ts = (448 : Nat) ∧ True) ∧ o = ts ∧ k = (0 : Int) ∧ e = (8 : Int) ∧ True) ∧ (decide ((↑(depF ts u) : Int) ≥ (6 : Int)) = false → (Array.size (newT ts u q) = (448 : Nat) ∧ True) ∧ (Array.size (newT ts u q) = (448 : Nat) ∧ Array.size (newT ts u q) = (448 : Nat) ∧ True) ∧ (Array.size (newT ts u q) = (448 : Nat) ∧ True) ∧ o = newT ts u q ∧ k = newI ts u q ∧ e = newE ts u q ∧ True)) ∧ (((newE ts u q == (7 : Int)) == true) = false → (Array.size (newT ts u q) = (448 : Nat) ∧ True) ∧ (Array.size (newT ts u q) = (448 : Nat) ∧ Array.size (newT ts u q) = (448 : Nat) ∧ True) ∧ (Array.size (newT ts u q) = (448 : Nat) ∧ True) ∧ o = newT ts u q ∧ k = newI ts u q ∧ e = newE ts u q ∧ True)) ∧ (((newE ts u q == (0 : Int)) == false) = false → (Array.size ts = (448 : Nat) ∧ True) ∧ (FIn ts ∧ ((0 : Int) ≤ u ∧ u < (4294967296 : Int)) ∧ True) ∧ (decide ((↑(depF ts u) : Int) ≥ (6 : Int)) = true → (Array.size ts = (448 : Nat) ∧ True) ∧ (Array.size ts = (448 : Nat) ∧ Array.size ts = (448 : Nat) ∧ True) ∧ (Array.size ts = (448 : Nat) ∧ True) ∧ o = ts ∧ k = (0 : Int) ∧ e = (8 : Int) ∧ True) ∧ (decide ((↑(depF ts u) : Int) ≥ (6 : Int)) = false → (Array.size (newT ts u q) = (448 : Nat) ∧ True) ∧ (Array.size (newT ts u q) = (448 : Nat) ∧ Array.size (newT ts u q) = (448 : Nat) ∧ True) ∧ (Array.size (newT ts u q) = (448 : Nat) ∧ True) ∧ o = newT ts u q ∧ k = newI ts u q ∧ e = newE ts u q ∧ True))) := by kernel_rfl
theorem al0 (ts : Array Value) : (run E50 1000 0 [callFr 39 Tryd.f39.ntmps [tbS ts] (Tryd.f39.body.getD .skip)] e0M).vc nilK (fun _ _ => False) =
  (((64 : Nat) ≤ Array.size ts ∧ True) ∧ (BkOk (Array.extract ts (0 : Nat) (64 : Nat)) ∧ True) ∧ (decide (List.length (issued (Array.extract ts (0 : Nat) (64 : Nat))) = (0 : Nat)) = true → True) ∧ (decide (List.length (issued (Array.extract ts (0 : Nat) (64 : Nat))) = (0 : Nat)) = false → False)) := by kernel_rfl
theorem al1 (ts : Array Value) (k : Nat) (cs : Array Value) : (run E50 1000 0 [callFr 39 Tryd.f39.ntmps [tbS ts] (Tryd.f39.body.getD .skip)] e0M).vc (freshA k cs 30) (fun _ _ => False) =
  (((64 : Nat) ≤ Array.size ts ∧ True) ∧ (BkOk (Array.extract ts (0 : Nat) (64 : Nat)) ∧ True) ∧ (decide (List.length (issued (Array.extract ts (0 : Nat) (64 : Nat))) = (0 : Nat)) = true → False) ∧ (decide (List.length (issued (Array.extract ts (0 : Nat) (64 : Nat))) = (0 : Nat)) = false → k = List.length (issued (Array.extract ts (0 : Nat) (64 : Nat))) ∧ (30 : TypeId) = (30 : TypeId) ∧ cs = u32s (issued (Array.extract ts (0 : Nat) (64 : Nat))) ∧ True)) := by kernel_rfl
end Go.Proofs.YtldoopjnjlpbpaaDoor
/- Of forests: Fell, New, All: contracts. No condition. -/
namespace Go.Proofs.YtldoopjnjlpbpaaDoor
set_option maxRecDepth 100000
set_option linter.unusedSimpArgs false
set_option linter.unusedVariables false
theorem E50_ok : EnvOk E50 := EnvOk.with E0_ok _ _ conT4_ok
section
variable {ts : Array Value} {h : Int}
theorem fnAl : E0.fn 39 = some Tryd.f39 := by kernel_rfl
theorem bodyAl : Tryd.f39.body = some (Tryd.f39.body.getD .skip) := by kernel_rfl
theorem all_con (m : SMem) : Con E0 39 [tbS ts] m (.need [TbOk ts] (rowT (lvT ts) 30 m)) := by
 refine Con.asked fun hq => ?_
 have hb : TbOk ts := hq _ (by simp)
 have hs := hb.sz
 have h64 : (64 : Nat) ≤ 448 := by decide
 have hbk : BkOk (bkB ts) := hb.bk
 refine Con.two (fun hz => ?_) (fun hz => ?_)
 ·refine (show Con E0 39 [tbS ts] m (needs [] _) from Con.pure E0_ok fnAl bodyAl (by kernel_rfl) (by kernel_rfl) fun hq => ?_)
  refine (run_vc E50_ok 1000 (al0 ts) ?_ (fun s m h => h) fun fs m hm => hm.elim).mono ?_
  ·have c0 : decide ((issued (ts.extract 0 64)).length = 0) = true := hz
   simp only [c0]
   simp only [bk_f, hs, h64, hbk, true_implies, Bool.true_eq_false, false_implies, and_true, true_and]
  ·intro s m' hs
   unfold nilK at hs
   split at hs
   ·rfl
   ·exact hs.elim
 ·refine (show Con E0 39 [tbS ts] m (needs [] _) from Con.fresh E0_ok fnAl bodyAl (by kernel_rfl) rfl fun _ => ?_)
  refine Good.retX ((run_vc E50_ok 1000 (al1 ts (lvT ts).length (u32s (lvT ts))) ?_ (fun s m h => h) fun fs m hm => hm.elim).mono fun s m h => ?_)
  ·have c0 : decide ((issued (ts.extract 0 64)).length = 0) = false := hz
   simp only [c0]
   simp only [bk_f, hs, h64, hbk, true_implies, Bool.false_eq_true, false_implies, and_true, true_and]
   exact ⟨rfl, rfl⟩
  ·unfold freshA at h
   split at h
   ·exact ⟨_, h⟩
   ·exact h.elim
def fnE (ts : Array Value) (u q : Int) : Int := if (newE ts u q = 0 ∨ newE ts u q = 7) ∧ 6 ≤ depF ts u then 8 else newE ts u q
def fnT (ts : Array Value) (u q : Int) : Array Value := if fnE ts u q = 0 then nwT ts u q else ts
def fnI (ts : Array Value) (u q : Int) : Int := if fnE ts u q = 0 then issueI (bkB ts) else 0
def fnS (o : Array Value) (k e : Int) : SV := .tup [.agg (.op o), .c (.f (.int .u32 (.o k))), .c (.f (.int .i64 (.o e)))]
theorem newE_c (ts : Array Value) (u q : Int) : newE ts u q = 0 ∨ newE ts u q = 7 ∨ newE ts u q = 4 ∨ newE ts u q = 2 := by
 unfold newE
 split
 ·exact .inr (.inr (.inl rfl))
 ·split
  ·split
   ·exact .inl rfl
   ·exact .inr (.inl rfl)
  ·exact .inr (.inr (.inr rfl))
theorem fnew_con (u q : Int) (m : SMem) : Con E0 17 [tbS ts, u32 u, i64 (.o q)] m (needs [FIn ts, inH u] (.ret (fnS (fnT ts u q) (fnI ts u q) (fnE ts u q)) m)) := by
 refine Con.pure E0_ok (by kernel_rfl : E0.fn 17 = some Tryd.f17) (by kernel_rfl : Tryd.f17.body = some (Tryd.f17.body.getD .skip)) (by kernel_rfl) (by kernel_rfl) fun hq => ?_
 have hf : FIn ts := hq _ (by simp)
 have hu : inH u := hq _ (by simp)
 have hb := hf.ok
 have hu' : 0 ≤ u ∧ u < 4294967296 := hu
 have hs := hb.sz
 refine (Good.ret [] (run_vc E50_ok 1000 (fn0 ts u q (fnT ts u q) (fnI ts u q) (fnE ts u q)) ?_ (fun s m h => h) fun _ _ h => h.elim)).mono fun _ _ h => h.1
 have hsn : (newT ts u q).size = 448 := by
  unfold newT
  split
  ·exact nw_size hb
  ·exact hs
 have d13 := dep_13 hf u
 have deep : 6 ≤ depF ts u → (newE ts u q = 0 ∨ newE ts u q = 7) → fnE ts u q = 8 ∧ fnT ts u q = ts ∧ fnI ts u q = 0 := fun hd k => by
  have e : fnE ts u q = 8 := by unfold fnE; rw [if_pos ⟨k, hd⟩]
  exact ⟨e, by unfold fnT; rw [if_neg (by rw [e]; decide)], by unfold fnI; rw [if_neg (by rw [e]; decide)]⟩
 have flat : ¬ ((newE ts u q = 0 ∨ newE ts u q = 7) ∧ 6 ≤ depF ts u) → fnE ts u q = newE ts u q ∧ fnT ts u q = newT ts u q ∧ fnI ts u q = newI ts u q := fun k => by
  have e : fnE ts u q = newE ts u q := by unfold fnE; rw [if_neg k]
  exact ⟨e, by unfold fnT newT; rw [e], by unfold fnI newI; rw [e]⟩
 by_cases hd : 6 ≤ depF ts u
 ·have dd : decide (((depF ts u : Nat) : Int) ≥ 6) = true := decide_eq_true (by omega)
  rcases newE_c ts u q with e | e | e | e
  ·obtain ⟨e1, e2, e3⟩ := deep hd (.inl e)
   have c1 : ((0 : Int) == 0) = true := rfl
   simp only [e1, e2, e3, e, dd, c1, hs, hb, hf, hu', hsn, beqT, beqF, Bool.not_true, true_implies, Bool.true_eq_false, Bool.false_eq_true, false_implies, and_true, true_and]
  ·obtain ⟨e1, e2, e3⟩ := deep hd (.inr e)
   have c1 : ((7 : Int) == 0) = false := rfl
   have c2 : ((7 : Int) == 7) = true := rfl
   simp only [e1, e2, e3, e, dd, c1, c2, hs, hb, hf, hu', hsn, beqT, beqF, Bool.not_true, Bool.not_false, true_implies, Bool.true_eq_false, Bool.false_eq_true, false_implies, and_true, true_and]
  ·obtain ⟨e1, e2, e3⟩ := flat (by rw [e]; rintro ⟨k | k, _⟩ <;> exact absurd k (by decide))
   have c1 : ((4 : Int) == 0) = false := rfl
   have c2 : ((4 : Int) == 7) = false := rfl
   rw [e] at e1
   simp only [e1, e2, e3, e, dd, c1, c2, hs, hb, hf, hu', hsn, beqT, beqF, Bool.not_true, Bool.not_false, true_implies, Bool.true_eq_false, Bool.false_eq_true, false_implies, and_true, true_and]
  ·obtain ⟨e1, e2, e3⟩ := flat (by rw [e]; rintro ⟨k | k, _⟩ <;> exact absurd k (by decide))
   have c1 : ((2 : Int) == 0) = false := rfl
   have c2 : ((2 : Int) == 7) = false := rfl
   rw [e] at e1
   simp only [e1, e2, e3, e, dd, c1, c2, hs, hb, hf, hu', hsn, beqT, beqF, Bool.not_true, Bool.not_false, true_implies, Bool.true_eq_false, Bool.false_eq_true, false_implies, and_true, true_and]
 ·have dd : decide (((depF ts u : Nat) : Int) ≥ 6) = false := decide_eq_false (by omega)
  obtain ⟨e1, e2, e3⟩ := flat fun k => hd k.2
  cases c1 : (newE ts u q == 0) <;> cases c2 : (newE ts u q == 7)
  all_goals
   simp only [e1, e2, e3, dd, c1, c2, hs, hb, hf, hu', hsn, beqT, beqF, Bool.not_true, Bool.not_false, true_implies, Bool.true_eq_false, Bool.false_eq_true, false_implies, and_true, true_and]
def drN (u : Array Value) (o : List Int) : Array Value := o.foldl dropT u
theorem drN_one (u : Array Value) (o : List Int) (x : Int) : drN u (o ++ [x]) = dropT (drN u o) x := by unfold drN; rw [List.foldl_append]; rfl
theorem dropT_b {u : Array Value} (hb : TbOk u) (x : Int) : TbOk (dropT u x) := by
 unfold dropT
 split
 ·rename_i hg; exact (drop_f hb hg).1
 ·exact hb
theorem drN_b : ∀ (o : List Int) {u : Array Value}, TbOk u → TbOk (drN u o)
 | [], _, hb => hb
 | x :: o, u, hb => drN_b o (u := dropT u x) (dropT_b hb x)
theorem take_one {l : List Int} {i : Nat} (hi : i < l.length) : l.take (i + 1) = l.take i ++ [l.getD i 0] := by
 rw [List.take_add_one, List.getElem?_eq_getElem hi, List.getD_eq_getElem?_getD, List.getElem?_eq_getElem hi]
 rfl
theorem fL_ok (hb : TbOk ts) {U : List Int} (hU : ∀ x ∈ U, inH x) (hl : U.length ≤ 32) {zz : Array Value} (hz : zz.size = 448) : ∀ (n i : Nat), i + n = U.length → Good Tryd.prog (fellA (drN ts U) U.length (u32s U)) 0 (fL_F h U.length (u32s U) (i : Int) (drN ts (U.take i)) zz) (fL_M h U.length (u32s U) (i : Int) (drN ts (U.take i)) zz) := by
 intro n
 induction n with
 | zero =>
  intro i hi
  obtain rfl : i = U.length := by omega
  refine past_vc E50_ok 1000 (flF h _ _ _ _ zz (drN ts U) (fun _ _ _ => False)) ?_ (fun _ _ h => h) (fun fs m hb => fl1_go (fun _ _ _ h => h.elim) hb)
  have d : decide ((U.length : Int) < (U.length : Int)) = false := decide_eq_false (by omega)
  have hs := (drN_b U hb).sz
  simp only [d, List.take_length, hs, hz, Bool.false_eq_true, Bool.true_eq_false, false_implies, true_implies, and_true, true_and]
 | succ n ih =>
  intro i hi
  have hi' : i < U.length := by omega
  refine past_vc E50_ok 1000 (flF h _ _ (i : Int) _ zz (drN ts U) (fun i' u z => i' = ((i + 1 : Nat) : Int) ∧ u = drN ts (U.take (i + 1)) ∧ z = zz)) ?_ (fun _ _ h => h) (fun fs m hb => fl1_go (fun i' u z ⟨e1, e2, e3⟩ => by rw [e1, e2, e3]; exact ih (i + 1) (by omega)) hb)
  have d : decide ((i : Int) < (U.length : Int)) = true := decide_eq_true (by omega)
  have ei : ari .add .i64 (i : Int) 1 = ((i + 1 : Nat) : Int) := by rw [ari_add, i64_in' (by omega) (by omega)]; omega
  have g1 : IsInt .u32 (u32s U) i := isI_of (u32s_at hi')
  have g2 : intAt (u32s U) i = U.getD i 0 := intAt_of (u32s_at hi')
  have hm : U.getD i 0 ∈ U := by rw [List.getD_eq_getElem?_getD, List.getElem?_eq_getElem hi']; exact List.getElem_mem _
  have hx : 0 ≤ U.getD i 0 ∧ U.getD i 0 < 4294967296 := hU _ hm
  have y0 : 0 ≤ (i : Int) := by omega
  have y1 : (i : Int) < (U.length : Int) := by omega
  have hb1 := drN_b (U.take i) hb
  have hs1 := hb1.sz
  have hs2 := (dropT_b hb1 (U.getD i 0)).sz
  rw [take_one hi', drN_one]
  simp only [d, ei, Int.toNat_natCast, Nat.mul_one, Nat.zero_add, g1, g2, hx, y0, y1, hb1, hs1, hs2, hz, Bool.false_eq_true, Bool.true_eq_false, decide_true, false_implies, true_implies, and_true, true_and, fL_d0_ok]
noncomputable def fellR (o : Array Value) (l : List Int) (m : SMem) : Tree := .ret (fellS o m.next l.length) (m.new (.pop (u32s l)) 30)
def fellT (ts : Array Value) (h : Int) : Array Value := drN ts (unT ts h)
noncomputable def fellC (ts : Array Value) (h : Int) (m : SMem) : Tree := .br (decide ((unT ts h).length = 0)) (.ret (fellN ts) m) (fellR (fellT ts h) (unT ts h) m)
theorem fnFe : E0.fn 5 = some Tryd.f5 := by kernel_rfl
theorem bodyFe : Tryd.f5.body = some (Tryd.f5.body.getD .skip) := by kernel_rfl
theorem Con.freshU {E : Env} (hE : EnvOk E) {g : FuncId} {l : List SV} {m : SMem} {n : Nat} {o rs : Array Value} {ty : TypeId} {fn : Func} {c : Code} (h1 : E.fn g = some fn) (h2 : fn.body = some c) (hl0 : allB noIds l = true)
  (h : Good E.P (fun s m' => s = fellS o 0 n ∧ m' = ⟨1, Tr.nil.set 0 (some ⟨.pop rs, ty, true⟩), []⟩) 0 [callFr g fn.ntmps l c] ⟨0, .nil, []⟩) :
  Con E g l m (.ret (fellS o m.next n) (m.new (.pop rs) ty)) := by
 intro A hA
 refine ⟨fn, h1, by rw [h2]; rfl, fun n0 F w0 w R args hl hR => ?_⟩
 refine (answers_of_good (m := ⟨0, .nil, []⟩) (hE.fns _ _ h1).1 h2 h (ok_anys hl0 hl) hR.none).mono ?_
 rintro v w' ⟨s, m', R', ⟨rfl, rfl⟩, hX, hR', hv⟩
 have hb0 : getB (Tr.nil.set 0 (some ⟨.pop rs, ty, true⟩)) 0 = some ⟨.pop rs, ty, true⟩ := rfl
 obtain ⟨gl, cs, fz, e1, e2, e3, e4, e5⟩ := hR'.blk 0 _ hb0
 obtain ⟨e6, ez⟩ := e5 rfl
 have e7 : w.heap.size ≤ gl.b := e6.resolve_right fun x => x
 obtain ⟨R2, k1, k2, k3⟩ := hR.grow hR'.fr.to e7 (hR'.lt 0 gl e1) e2 e3 (free_ok (a := .pop rs) (R' := R) rfl e4) ez
 obtain ⟨vs, rfl, hvs⟩ := hv
 refine ⟨_, _, R2, hA, k1, k3, vs, rfl, ?_⟩
 match hl : vs.toList, hvs with
 | [a, b, d], ⟨q0, ⟨g, cp, f1, q1, f2, f3⟩, q2, _⟩ =>
  rw [e1] at f1
  cases f1
  exact ⟨q0, ⟨gl, cp, k2, q1, f2, f3⟩, q2, trivial⟩
theorem fell_con (h : Int) (m : SMem) : Con E0 5 [tbS ts, u32 h] m (.need [FIn ts, inH h] (fellC ts h m)) := by
 refine Con.asked fun hq => ?_
 have hf : FIn ts := hq _ (by simp)
 have hb := hf.ok
 have hh : inH h := hq _ (by simp)
 have hh' : 0 ≤ h ∧ h < 4294967296 := hh
 have hs := hb.sz
 have h64 : (64 : Nat) ≤ 448 := by decide
 have hbk : BkOk (bkB ts) := hb.bk
 have hU : gdF ts h = true → unT ts h = UNL ts h := fun hg => if_pos hg
 have hgd : gdF ts h = false ↔ (unT ts h).length = 0 := by
  constructor
  ·intro k; unfold unT; rw [k]; rfl
  ·intro k
   cases c : gdF ts h with
   | false => rfl
   | true =>
    rw [hU c, unl_cons hf ((lv_mem hb).2 c)] at k
    cases k
 refine Con.two (fun hz => ?_) (fun hz => ?_)
 ·have hg : goodB (bkB ts) h = false := hgd.2 (of_decide_eq_true hz)
  refine (show Con E0 5 [tbS ts, u32 h] m (needs [] _) from Con.pure E0_ok fnFe bodyFe (by kernel_rfl) (by kernel_rfl) fun hq => ?_)
  refine (Good.ret [] (run_vc E50_ok 1000 (flN ts h 0 #[] (fun _ _ _ => False)) ?_ (fun s m h => h) fun fs m hm => fl0_go (fun _ _ _ e => e.elim) hm)).mono fun _ _ h => h.1
  simp only [bk_f, hg, hs, h64, hbk, hh', Bool.not_false, true_implies, Bool.true_eq_false, false_implies, and_true, true_and]
 ·have hne : ¬ (unT ts h).length = 0 := of_decide_eq_false hz
  have hg' : gdF ts h = true := by
   cases c : gdF ts h with
   | true => rfl
   | false => exact absurd (hgd.1 c) hne
  have hg : goodB (bkB ts) h = true := hg'
  have hl := (lv_mem hb).2 hg'
  have h32 : (unT ts h).length ≤ 32 := by rw [hU hg']; exact un_32 hf hl
  have hin : ∀ x ∈ unT ts h, inH x := fun x hx => by
   rw [hU hg'] at hx
   exact lv_in hb (.inr (un_sub hf.fo h hl x hx).1)
  refine Con.freshU E0_ok fnFe bodyFe (by kernel_rfl) (Good.retX ((run_vc E50_ok 1000 (flF0 ts h (unT ts h).length (u32s (unT ts h)) (fellT ts h) (fun i u z => i = ((0 : Nat) : Int) ∧ u = drN ts ((unT ts h).take 0) ∧ z = zT)) ?_ (fun s m h => h) fun fs m hm => fl0_go (A := fellA (fellT ts h) (unT ts h).length (u32s (unT ts h))) (fun i u z ⟨e1, e2, e3⟩ => by rw [e1, e2, e3]; exact fL_ok hb hin h32 zT_sz _ 0 (Nat.zero_add _)) hm).mono fun s m h => ?_))
  ·simp only [bk_f, hg, hz, hs, h64, hbk, hf, hh', Bool.not_true, Bool.false_eq_true, Bool.true_eq_false, true_implies, false_implies, and_true, true_and, fL_d0_ok]
   exact ⟨rfl, rfl⟩
  ·unfold fellA at h
   split at h
   ·exact ⟨_, h⟩
   ·exact h.elim
end
end Go.Proofs.YtldoopjnjlpbpaaDoor
/- Of forests: contracts that hold. No condition. -/
namespace Go.Proofs.YtldoopjnjlpbpaaDoor
set_option maxRecDepth 100000
set_option linter.unusedVariables false
theorem conT5_ok : ∀ g l m t, conT5 g l m = some t → Con E0 g l m t := by
 intro g l m t h
 unfold conT5 at h
 split at h
 ·rename_i ts x; cases h
  refine Con.asked fun hq => Con.args (l' := [tbS ts, u32 x.den]) (fun R vs ha => by
   match vs, ha with
   | [v, w], ha => exact ⟨ha.1, ha.2.1, trivial⟩) ?_
  intro A hs
  exact cut_con x.den m A ⟨fun p hp => hq p hp, hs⟩
 ·rename_i ts x u; cases h
  refine Con.asked fun hq => Con.args (l' := [tbS ts, u32 x.den, u32 u.den]) (fun R vs ha => by
   match vs, ha with
   | [v, w, z], ha => exact ⟨ha.1, ha.2.1, ha.2.2.1, trivial⟩) ?_
  intro A hs
  exact graft_con x.den u.den m A ⟨fun p hp => hq p hp, hs⟩
 ·rename_i ts; cases h
  exact all_con m
 ·exact conT4_ok _ _ _ _ h
theorem isB_ok {b : Bool} {s : SV} {m : SMem} {R R' : Ren} {v : Value} (hs : isB b s m) (hv : s.ok R v) : (sB (.l b)).ok R' v := by
 unfold isB at hs
 split at hs
 ·have hv : v = .bool _ := hv
  rw [hv, hs]; rfl
 ·exact hs.elim
def D6 (ts : Array Value) : Prop := ∀ x ∈ lvT ts, depL (upF ts) x ≤ 6
end Go.Proofs.YtldoopjnjlpbpaaDoor
/- Of forests: what every act leaves: ways upwards that end, none too deep; nothing that never was is above. No condition. -/
namespace Go.Proofs.YtldoopjnjlpbpaaDoor
set_option maxRecDepth 100000
set_option linter.unusedVariables false
def OD (ts : Array Value) : Prop := ∀ x, gdF ts x = true → upR ts x = 0 ∨ usedB (bkB ts) (upR ts x)
structure FV (ts : Array Value) : Prop where
 f : FIn ts
 d : D6 ts
 o : OD ts
def vEq : Option Value → Option Value → Bool
 | some (.int k a), some (.int k' b) => decide (k = k') && decide (a = b)
 | some (.slice none 0 0), some (.slice none 0 0) => true
 | _, _ => false
theorem vEq_ok {a b : Option Value} (h : vEq a b = true) : a = b := by
 unfold vEq at h
 split at h
 ·simp only [Bool.and_eq_true, decide_eq_true_eq] at h
  rw [h.1, h.2]
 ·rfl
 ·cases h
theorem zT_book : ∀ i, i < 32 → vEq (zT[i * 2]?) (some (.int .u32 0)) = true ∧ vEq (zT[i * 2 + 1]?) (some (.int .u8 0)) = true := by decide +kernel
theorem zT_rg : ∀ i, i < 32 → ∀ k, k < 12 → vEq (zT[64 + i * 12 + k]?) ((rgA 0 0 0 fun _ => 0)[k]?) = true := by decide +kernel
theorem z_bk {i : Nat} (hi : i < 32) : (bkB zT)[i * 2]? = some (.int .u32 0) ∧ (bkB zT)[i * 2 + 1]? = some (.int .u8 0) := by
 obtain ⟨h1, h2⟩ := zT_book i hi
 have h1 := vEq_ok h1
 have h2 := vEq_ok h2
 have hs := zT_sz
 unfold bkB
 rw [ext_get (by omega) (by omega), ext_get (by omega) (by omega), Nat.zero_add, Nat.zero_add]
 exact ⟨h1, h2⟩
theorem z_kind {i : Nat} (hi : i < 32) : kindAt (bkB zT) i = 0 := intAt_of (z_bk hi).2
theorem z_age {i : Nat} (hi : i < 32) : ageAt (bkB zT) i = 0 := intAt_of (z_bk hi).1
theorem z_bkok : BkOk (bkB zT) := by
 refine ⟨by unfold bkB; rw [ext_size (by rw [zT_sz]; decide)], fun i hi => isI_of (z_bk hi).1, fun i hi => isI_of (z_bk hi).2, fun i hi => ?_, fun i hi => ?_⟩
 ·rw [z_age hi]; exact ⟨by decide, by decide⟩
 ·rw [z_kind hi]; exact ⟨by decide, by decide⟩
theorem z_tb : TbOk zT := ⟨zT_sz, z_bkok, fun i hi => (rg_new (us := zT) (p := 64 + i * 12) (u := 0) (q := 0) (c := fun _ => 0) (fun k hk => vEq_ok (zT_rg i hi k hk)) ⟨by decide, by decide⟩ ⟨by decide, by decide⟩ (fun _ _ => ⟨by decide, by decide⟩)).1⟩
theorem z_gd (x : Int) : gdF zT x = false := by
 cases c : gdF zT x with
 | false => rfl
 | true =>
  obtain ⟨_, _, s3, s4, _⟩ := good_f z_tb c
  rw [z_kind s3] at s4
  exact absurd s4 (by decide)
theorem z_lv : lvT zT = [] := by
 cases e : lvT zT with
 | nil => rfl
 | cons a l =>
  have : a ∈ lvT zT := by rw [e]; exact List.mem_cons_self ..
  have := (lv_mem z_tb).1 this
  rw [z_gd] at this
  cases this
theorem FV_zero : FV zT := by
 refine ⟨fo_of z_tb fun x hx => ?_, fun x hx => ?_, fun x hx => ?_⟩
 ·rw [z_gd] at hx; cases hx
 ·rw [z_lv] at hx; cases hx
 ·rw [z_gd] at hx; cases hx
section
variable {ts : Array Value} {h : Int}
theorem used_good (hb : TbOk ts) {x : Int} (hx : gdF ts x = true) : usedB (bkB ts) x := by
 obtain ⟨i, hi, hk, e⟩ := (goodB_iff hb.bk).1 hx
 exact ⟨i, ageAt (bkB ts) i, hi, (hb.bk.ra i hi).1, e, .inr ⟨rfl, by rw [hk]; decide⟩⟩
theorem rt_ch_eq {up up' : Int → Int} {x y : Int} (h : chL up' x = chL up y) : rtL up' x = rtL up y := by unfold rtL; rw [h]
theorem cut_f (hv : FV ts) (hg : gdF ts h = true) : FV (cutT ts h) ∧ bkB (cutT ts h) = bkB ts ∧ ∀ x ∈ UNL ts h, gdF (cutT ts h) x = true ∧ rtF (cutT ts h) x = h ∧ ∀ k, k < 8 → ceF (cutT ts h) x k = clC ts h (ceF ts x k) := by
 have hb := hv.f.ok
 obtain ⟨k1, k2, k3, k4, k5⟩ := cut_in hv.f hg
 have hl : h ∈ lvT ts := (lv_mem hb).2 hg
 have elv := lv_bk k2
 have hl' : h ∈ lvT (raS ts h 0) := by rw [elv]; exact hl
 have eT : cutT ts h = cuN ts h (raS ts h 0) (UNL (raS ts h 0) h) := if_pos hg
 obtain ⟨c1, c2, c3⟩ := cu_f (ts := ts) (h := h) (UNL (raS ts h 0) h) k1.ok (fun x hx => (lv_mem k1.ok).1 (un_sub k1.fo h hl' x hx).1)
 obtain ⟨r1, r2, r3, r4, r5⟩ := raS_f (u := 0) hb hg ⟨by decide, by decide⟩
 rw [eT]
 have ebk := c2.trans k2
 have hup : ∀ x ∈ lvT (raS ts h 0), upF (cuN ts h (raS ts h 0) (UNL (raS ts h 0) h)) x = upF (raS ts h 0) x := fun x hx => up_bk c2 (c3 x ((lv_mem k1.ok).1 hx)).1
 obtain ⟨f1, f2⟩ := fo_same k1.fo hup
 have elv2 : lvT (cuN ts h (raS ts h 0) (UNL (raS ts h 0) h)) = lvT (raS ts h 0) := lv_bk c2
 refine ⟨⟨⟨c1, by rw [elv2]; exact f1⟩, fun x hx => ?_, fun x hx => ?_⟩, ebk, fun x hx => ?_⟩
 ·rw [elv2] at hx
  have e := f2 x (.inr hx)
  rw [elv] at hx
  have : depL (upF (cuN ts h (raS ts h 0) (UNL (raS ts h 0) h))) x = depL (upF (raS ts h 0)) x := by unfold depL; rw [e]
  rw [this]
  exact Nat.le_trans (k3 x hx) (hv.d x hx)
 ·rw [gd_bk ebk] at hx
  rw [(c3 x (by rw [gd_bk k2]; exact hx)).1, ebk]
  by_cases e : x = h
  ·rw [e, r3]; exact .inl rfl
  ·rw [r4 x hx e]; exact hv.o x hx
 ·obtain ⟨x1, x2⟩ := un_sub hv.f.fo h hl x hx
  have xg := (lv_mem hb).1 x1
  have x1' : x ∈ lvT (raS ts h 0) := by rw [elv]; exact x1
  have xg' : gdF (cuN ts h (raS ts h 0) (UNL (raS ts h 0) h)) x = true := by rw [gd_bk ebk]; exact xg
  refine ⟨xg', ?_, fun k hk => ?_⟩
  ·unfold rtF
   rw [if_pos xg', rt_ch_eq (f2 x (.inr x1'))]
   exact k5 x (.inr x1) x2
  ·have hm : x ∈ UNL (raS ts h 0) h := (un_mem k1.fo hl').2 ⟨x1', (k4 x (.inr x1)).2 x2⟩
   rw [(c3 x (by rw [gd_bk k2]; exact xg)).2.2 k hk, if_pos hm, (r5 x).2 k hk]
theorem graft_f (hv : FV ts) {u : Int} (hu : inH u) : FV (grT ts h u) ∧ (grE ts h u = 0 → rtF (grT ts h u) h = rtF ts u ∧ gdF ts h = true ∧ bkB (grT ts h u) = bkB ts) := by
 by_cases hE : grE ts h u = 0
 rotate_left
 ·have e : grT ts h u = ts := by unfold grT; rw [if_neg hE]
  rw [e]
  exact ⟨hv, fun k => absurd k hE⟩
 have hb := hv.f.ok
 have eT : grT ts h u = raS ts h u := by unfold grT; rw [if_pos hE]
 unfold grE at hE
 split at hE
 ·exact absurd hE (by decide)
 rename_i n1
 split at hE
 ·exact absurd hE (by decide)
 rename_i n2
 split at hE
 rotate_left
 ·exact absurd hE (by decide)
 rename_i h6
 rw [not_or] at n1 n2
 have hg : gdF ts h = true := by cases c : gdF ts h with | true => rfl | false => exact absurd c n1.1
 have hgu : gdF ts u = true := by cases c : gdF ts u with | true => rfl | false => exact absurd c n1.2
 have hr : rtF ts h = h := Decidable.not_not.1 n2.1
 have ho : outF ts h u ≠ true := n2.2
 have hl := (lv_mem hb).2 hg
 have hlu := (lv_mem hb).2 hgu
 obtain ⟨r1, r2, r3, r4, r5⟩ := raS_f (u := u) hb hg hu
 have er : rtF ts h = rtL (upF ts) h := if_pos hg
 have h0r : upF ts h = 0 := (rt_root hv.f.fo hl).1 (by rw [← er]; exact hr)
 have hnot : h ∉ chL (upF ts) u := fun k => ho (by unfold outF; rw [hgu, decide_eq_true k]; rfl)
 have h0 : upF (raS ts h u) h = u := by unfold upF; rw [gd_bk r2, gd_bk r2, r3, if_pos hg, if_pos hgu]
 have hsm : ∀ x ∈ lvT ts, x ≠ h → upF (raS ts h u) x = upF ts x := fun x hx hne => up_bk r2 (r4 x ((lv_mem hb).1 hx) hne)
 have hd6 : ∀ x ∈ lvT ts, h ∈ chL (upF ts) x → depL (upF ts) x + depL (upF ts) u ≤ 6 := fun x hx hc => by
  have := h6 x ((un_mem hv.f.fo hl).2 ⟨hx, hc⟩)
  unfold depF at this
  rw [if_pos ((lv_mem hb).1 hx), if_pos hgu] at this
  exact this
 obtain ⟨f1, f2, f3⟩ := graft_ch hv.f.fo hl h0r hlu hnot h0 hsm (fun x hx hc => by have := hd6 x hx hc; omega)
 have elv := lv_bk r2
 rw [eT]
 refine ⟨⟨⟨r1, by rw [elv]; exact f1⟩, fun x hx => ?_, fun x hx => ?_⟩, fun _ => ⟨?_, hg, r2⟩⟩
 ·rw [elv] at hx
  unfold depL
  by_cases c : h ∈ chL (upF ts) x
  ·rw [f3 x (.inr hx) c, List.length_append]
   exact hd6 x hx c
  ·rw [f2 x (.inr hx) c]
   exact hv.d x hx
 ·rw [gd_bk r2] at hx
  rw [r2]
  by_cases e : x = h
  ·rw [e, r3]; exact .inr (used_good hb hgu)
  ·rw [r4 x hx e]; exact hv.o x hx
 ·unfold rtF
  rw [gd_bk r2, if_pos hg, if_pos hgu]
  exact graft_rt hv.f.fo f1 hl hlu hnot h0 hsm
theorem FV_drop (hv : FV ts) (hg : gdF ts h = true) : FV (drT ts h) := by
 have hb := hv.f.ok
 obtain ⟨r1, r2, r3, r4⟩ := drop_f hb hg
 have hm : ∀ x, x ∈ lvT (drT ts h) ↔ x ∈ lvT ts ∧ x ≠ h := fun x => by
  rw [lv_mem r1, lv_mem hb, r3, Bool.and_eq_true, Bool.not_eq_true', decide_eq_false_iff_not]
 have hup : ∀ x ∈ lvT (drT ts h), upF (drT ts h) x = if upF ts x = h then 0 else upF ts x := fun x hx => by
  obtain ⟨k1, k2⟩ := (hm x).1 hx
  exact drop_up hb hg ((lv_mem hb).1 k1) k2
 obtain ⟨f1, f2⟩ := fo_sub (L' := lvT (drT ts h)) (up' := upF (drT ts h)) hv.f.fo (issued_nodup r1.bk) (fun x hx => ((hm x).1 hx).1) (fun x hx => by
  rw [hup x hx]
  split
  ·exact .inr rfl
  ·exact .inl rfl) (fun x hx => by
  rw [hup x hx]
  split
  ·exact .inl rfl
  ·rename_i c
   rcases hv.f.fo.cl x ((hm x).1 hx).1 with k | k
   ·exact .inl k
   ·exact .inr ((hm _).2 ⟨k, c⟩))
 refine ⟨⟨r1, f1⟩, fun x hx => Nat.le_trans (f2 x hx) (hv.d x ((hm x).1 hx).1), fun x hx => ?_⟩
 have hx' := (lv_mem r1).2 hx
 obtain ⟨k1, k2⟩ := (hm x).1 hx'
 have kg := (lv_mem hb).1 k1
 rw [(r4 x kg k2).1, r2]
 exact (hv.o x kg).imp id used_void_of
where
 used_void_of {x : Int} : usedB (bkB ts) x → usedB (voidB (bkB ts) h) x := fun k => used_void hv.f.ok.bk k
theorem drN_f : ∀ (o : List Int) {ts : Array Value}, FV ts → o.Nodup → (∀ x ∈ o, gdF ts x = true) → FV (drN ts o) ∧ ∀ x, gdF (drN ts o) x = (gdF ts x && !decide (x ∈ o))
 | [], ts, hv, _, _ => ⟨hv, fun x => by simp [drN]⟩
 | y :: o, ts, hv, hn, hg => by
  have hgy := hg y (List.mem_cons_self ..)
  obtain ⟨n1, n2⟩ := List.nodup_cons.1 hn
  have e : dropT ts y = drT ts y := if_pos hgy
  obtain ⟨_, _, r3, _⟩ := drop_f hv.f.ok hgy
  have key := drN_f o (ts := drT ts y) (FV_drop hv hgy) n2 fun x hx => by
   rw [r3, hg x (List.mem_cons_of_mem _ hx), decide_eq_false (fun k => n1 (by rw [← k]; exact hx))]
   rfl
  show FV (drN (dropT ts y) o) ∧ ∀ x, gdF (drN (dropT ts y) o) x = _
  rw [e]
  refine ⟨key.1, fun x => ?_⟩
  rw [key.2, r3]
  by_cases c : x = y
  ·simp [c]
  ·by_cases d : x ∈ o
   ·simp [c, d]
   ·simp [c, d]
theorem fell_f (hv : FV ts) (hg : gdF ts h = true) : FV (fellT ts h) ∧ (lvT ts).length = (unT ts h).length + (lvT (fellT ts h)).length := by
 have hb := hv.f.ok
 have hl := (lv_mem hb).2 hg
 have eU : unT ts h = UNL ts h := if_pos hg
 have hn : (unT ts h).Nodup := by rw [eU]; exact un_nodup hv.f.fo h hl
 have hsub : ∀ x ∈ unT ts h, x ∈ lvT ts := fun x hx => by rw [eU] at hx; exact (un_sub hv.f.fo h hl x hx).1
 obtain ⟨k1, k2⟩ := drN_f (unT ts h) hv hn fun x hx => (lv_mem hb).1 (hsub x hx)
 have k1 : FV (fellT ts h) := k1
 refine ⟨k1, ?_⟩
 have hm : ∀ x, x ∈ lvT (fellT ts h) ↔ x ∈ lvT ts ∧ x ∉ unT ts h := fun x => by
  rw [lv_mem k1.f.ok, lv_mem hb]
  show gdF (drN ts (unT ts h)) x = true ↔ _
  rw [k2, Bool.and_eq_true, Bool.not_eq_true', decide_eq_false_iff_not]
 have hnd : (unT ts h ++ lvT (fellT ts h)).Nodup := by
  rw [List.nodup_append]
  refine ⟨hn, issued_nodup k1.f.ok.bk, fun a ha b hb' e => ?_⟩
  rw [e] at ha
  exact ((hm b).1 hb').2 ha
 rw [← List.length_append]
 refine Nat.le_antisymm (nodup_le (issued_nodup hb.bk) fun x hx => ?_) (nodup_le hnd fun x hx => ?_)
 ·by_cases c : x ∈ unT ts h
  ·exact List.mem_append_left _ c
  ·exact List.mem_append_right _ ((hm x).2 ⟨hx, c⟩)
 ·rcases List.mem_append.1 hx with c | c
  ·exact hsub x c
  ·exact ((hm x).1 c).1
theorem FV_new (hv : FV ts) {u q : Int} (hu : inH u) : FV (fnT ts u q) := by
 by_cases hE : fnE ts u q = 0
 rotate_left
 ·have e : fnT ts u q = ts := by unfold fnT; rw [if_neg hE]
  rw [e]; exact hv
 have hb := hv.f.ok
 have eT : fnT ts u q = nwT ts u q := by unfold fnT; rw [if_pos hE]
 unfold fnE at hE
 split at hE
 ·exact absurd hE (by decide)
 rename_i n1
 have hdep : depF ts u ≤ 5 := by
  rcases Nat.lt_or_ge (depF ts u) 6 with c | c
  ·omega
  ·exact absurd ⟨.inl hE, c⟩ n1
 unfold newE at hE
 split at hE
 ·exact absurd hE (by decide)
 rename_i n2
 split at hE
 rotate_left
 ·exact absurd hE (by decide)
 rename_i hq
 split at hE
 rotate_left
 ·exact absurd hE (by decide)
 rename_i ho
 have hu2 : u = 0 ∨ u ∈ lvT ts := by
  by_cases c : u = 0
  ·exact .inl c
  ·refine .inr ((lv_mem hb).2 ?_)
   cases d : gdF ts u with
   | true => rfl
   | false => exact absurd ⟨c, d⟩ n2
 obtain ⟨r1, r2, r3, r4, r5⟩ := nw_f hb ho (u := u) (q := q) hu hq
 obtain ⟨i1, i2, _⟩ := iss_new hb ho
 have hdu : depL (upF ts) u ≤ 5 := by
  rcases hu2 with c | c
  ·rw [c, dep_zero]; omega
  ·have e : depF ts u = depL (upF ts) u := if_pos ((lv_mem hb).1 c)
   omega
 have hm : ∀ x, x ∈ lvT (nwT ts u q) ↔ x ∈ lvT ts ∨ x = issueI (bkB ts) := fun x => by
  rw [lv_mem r1, lv_mem hb, r3, Bool.or_eq_true, decide_eq_true_eq]
 have hc : issueI (bkB ts) ∉ lvT ts := fun k => by
  rw [lv_mem hb, i1] at k; cases k
 have h0 : upF (nwT ts u q) (issueI (bkB ts)) = u := by
  have g : gdF (nwT ts u q) (issueI (bkB ts)) = true := by rw [r3, decide_eq_true rfl, Bool.or_true]
  unfold upF
  rw [if_pos g, r4.1]
  rcases hu2 with c | c
  ·rw [c]; split <;> rfl
  ·rw [if_pos (by rw [r3, (lv_mem hb).1 c]; rfl)]
 have hsm : ∀ x ∈ lvT ts, upF (nwT ts u q) x = upF ts x := fun x hx => by
  have g := (lv_mem hb).1 hx
  have g' : gdF (nwT ts u q) x = true := by rw [r3, g]; rfl
  have hne : upR ts x ≠ issueI (bkB ts) := fun k => by
   rcases hv.o x g with c | c
   ·exact i2 (k.symm.trans c)
   ·rw [k] at c
    exact (used_new hb.bk ho).2 c
  unfold upF
  rw [if_pos g, if_pos g', (r5 x g).1, r3, decide_eq_false hne, Bool.or_false]
 obtain ⟨f1, f2, f3⟩ := new_ch hv.f.fo (issued_nodup r1.bk) hm hc i2 hu2 h0 hsm (by omega)
 rw [eT]
 refine ⟨⟨r1, f1⟩, fun x hx => ?_, fun x hx => ?_⟩
 ·rcases (hm x).1 hx with k | k
  ·unfold depL
   rw [f2 x (.inr k)]
   exact hv.d x k
  ·rw [k, f3]; omega
 ·rcases (hm x).1 ((lv_mem r1).2 hx) with k | k
  ·have g := (lv_mem hb).1 k
   rw [(r5 x g).1, r2]
   exact (hv.o x g).imp id fun k => used_issue hb.bk k
  ·rw [k, r4.1, r2]
   rcases hu2 with c | c
   ·exact .inl c
   ·exact .inr (used_issue hb.bk (used_good hb ((lv_mem hb).1 c)))
end
end Go.Proofs.YtldoopjnjlpbpaaDoor
/- Of forests: a region with a cell set. No condition. -/
namespace Go.Proofs.YtldoopjnjlpbpaaDoor
set_option maxRecDepth 100000
set_option linter.unusedVariables false
section
variable {ts : Array Value} {h : Int}
end
end Go.Proofs.YtldoopjnjlpbpaaDoor
/- Of cells: each names what outlives its region, or nothing, whatever is done. No condition. -/
namespace Go.Proofs.YtldoopjnjlpbpaaDoor
set_option maxRecDepth 100000
set_option linter.unusedVariables false
section
variable {L L' : List Int} {up up' : Int → Int}
end
section
variable {ts : Array Value} {h : Int}
def CN (ts : Array Value) : Prop := ∀ x, gdF ts x = true → ∀ k, k < 8 → ceF ts x k = 0 ∨ outF ts (ceF ts x k) x = true
structure FC (ts : Array Value) : Prop where
 v : FV ts
 c : CN ts
end
end Go.Proofs.YtldoopjnjlpbpaaDoor
/- Of owns: what has no loops: runs. No condition. -/
namespace Go.Proofs.YtldoopjnjlpbpaaDoor
set_option linter.unusedVariables false
def popB : ByteArray := ByteArray.mk (List.toArray (List.append (List.append [(0 : UInt8), (1 : UInt8), (1 : UInt8), (2 : UInt8), (1 : UInt8), (2 : UInt8), (2 : UInt8), (3 : UInt8), (1 : UInt8), (2 : UInt8), (2 : UInt8), (3 : UInt8), (2 : UInt8), (3 : UInt8), (3 : UInt8), (4 : UInt8), (1 : UInt8), (2 : UInt8), (2 : UInt8), (3 : UInt8), (2 : UInt8), (3 : UInt8), (3 : UInt8), (4 : UInt8), (2 : UInt8), (3 : UInt8), (3 : UInt8), (4 : UInt8), (3 : UInt8), (4 : UInt8), (4 : UInt8), (5 : UInt8), (1 : UInt8), (2 : UInt8), (2 : UInt8), (3 : UInt8), (2 : UInt8), (3 : UInt8), (3 : UInt8), (4 : UInt8), (2 : UInt8), (3 : UInt8), (3 : UInt8), (4 : UInt8), (3 : UInt8), (4 : UInt8), (4 : UInt8), (5 : UInt8), (2 : UInt8), (3 : UInt8), (3 : UInt8), (4 : UInt8), (3 : UInt8), (4 : UInt8), (4 : UInt8), (5 : UInt8), (3 : UInt8), (4 : UInt8), (4 : UInt8), (5 : UInt8), (4 : UInt8), (5 : UInt8), (5 : UInt8), (6 : UInt8)] [(1 : UInt8), (2 : UInt8), (2 : UInt8), (3 : UInt8), (2 : UInt8), (3 : UInt8), (3 : UInt8), (4 : UInt8), (2 : UInt8), (3 : UInt8), (3 : UInt8), (4 : UInt8), (3 : UInt8), (4 : UInt8), (4 : UInt8), (5 : UInt8), (2 : UInt8), (3 : UInt8), (3 : UInt8), (4 : UInt8), (3 : UInt8), (4 : UInt8), (4 : UInt8), (5 : UInt8), (3 : UInt8), (4 : UInt8), (4 : UInt8), (5 : UInt8), (4 : UInt8), (5 : UInt8), (5 : UInt8), (6 : UInt8), (2 : UInt8), (3 : UInt8), (3 : UInt8), (4 : UInt8), (3 : UInt8), (4 : UInt8), (4 : UInt8), (5 : UInt8), (3 : UInt8), (4 : UInt8), (4 : UInt8), (5 : UInt8), (4 : UInt8), (5 : UInt8), (5 : UInt8), (6 : UInt8), (3 : UInt8), (4 : UInt8), (4 : UInt8), (5 : UInt8), (4 : UInt8), (5 : UInt8), (5 : UInt8), (6 : UInt8), (4 : UInt8), (5 : UInt8), (5 : UInt8), (6 : UInt8), (5 : UInt8), (6 : UInt8), (6 : UInt8), (7 : UInt8)]) (List.append [(1 : UInt8), (2 : UInt8), (2 : UInt8), (3 : UInt8), (2 : UInt8), (3 : UInt8), (3 : UInt8), (4 : UInt8), (2 : UInt8), (3 : UInt8), (3 : UInt8), (4 : UInt8), (3 : UInt8), (4 : UInt8), (4 : UInt8), (5 : UInt8), (2 : UInt8), (3 : UInt8), (3 : UInt8), (4 : UInt8), (3 : UInt8), (4 : UInt8), (4 : UInt8), (5 : UInt8), (3 : UInt8), (4 : UInt8), (4 : UInt8), (5 : UInt8), (4 : UInt8), (5 : UInt8), (5 : UInt8), (6 : UInt8), (2 : UInt8), (3 : UInt8), (3 : UInt8), (4 : UInt8), (3 : UInt8), (4 : UInt8), (4 : UInt8), (5 : UInt8), (3 : UInt8), (4 : UInt8), (4 : UInt8), (5 : UInt8), (4 : UInt8), (5 : UInt8), (5 : UInt8), (6 : UInt8), (3 : UInt8), (4 : UInt8), (4 : UInt8), (5 : UInt8), (4 : UInt8), (5 : UInt8), (5 : UInt8), (6 : UInt8), (4 : UInt8), (5 : UInt8), (5 : UInt8), (6 : UInt8), (5 : UInt8), (6 : UInt8), (6 : UInt8), (7 : UInt8)] [(2 : UInt8), (3 : UInt8), (3 : UInt8), (4 : UInt8), (3 : UInt8), (4 : UInt8), (4 : UInt8), (5 : UInt8), (3 : UInt8), (4 : UInt8), (4 : UInt8), (5 : UInt8), (4 : UInt8), (5 : UInt8), (5 : UInt8), (6 : UInt8), (3 : UInt8), (4 : UInt8), (4 : UInt8), (5 : UInt8), (4 : UInt8), (5 : UInt8), (5 : UInt8), (6 : UInt8), (4 : UInt8), (5 : UInt8), (5 : UInt8), (6 : UInt8), (5 : UInt8), (6 : UInt8), (6 : UInt8), (7 : UInt8), (3 : UInt8), (4 : UInt8), (4 : UInt8), (5 : UInt8), (4 : UInt8), (5 : UInt8), (5 : UInt8), (6 : UInt8), (4 : UInt8), (5 : UInt8), (5 : UInt8), (6 : UInt8), (5 : UInt8), (6 : UInt8), (6 : UInt8), (7 : UInt8), (4 : UInt8), (5 : UInt8), (5 : UInt8), (6 : UInt8), (5 : UInt8), (6 : UInt8), (6 : UInt8), (7 : UInt8), (5 : UInt8), (6 : UInt8), (6 : UInt8), (7 : UInt8), (6 : UInt8), (7 : UInt8), (7 : UInt8), (8 : UInt8)])))
noncomputable def osS (os : Array Value) : SV := .s (.agg (.op os))
noncomputable def owS (k t h : Int) : SV := .s (.agg (.ls [.f (.int .u8 (.o k)), .f (.int .u8 (.o t)), .f (.int .u8 (.o h))]))
structure OsIs (os : Array Value) (p : Nat) : Prop where
 r : IsInt .u32 os p
 k : IsInt .u8 os (p + 1)
 t : IsInt .u8 os (p + 2)
 h : IsInt .u8 os (p + 3)
 hr : inH (intAt os p)
 hk : 0 ≤ intAt os (p + 1) ∧ intAt os (p + 1) ≤ 255
 ht : 0 ≤ intAt os (p + 2) ∧ intAt os (p + 2) ≤ 255
 hh : 0 ≤ intAt os (p + 3) ∧ intAt os (p + 3) ≤ 255
structure OsOk (os : Array Value) : Prop where
 sz : os.size = 128
 c : ∀ i, i < 32 → OsIs os (i * 4)
noncomputable def conP0 (g : FuncId) (l : List SV) (m : SMem) : Option Tree := match g, l with
 | 5, [.s (.agg (.op ts)), .s (.c (.f (.int .u32 h)))] => some (.need [FIn ts, inH h.den] (fellC ts h.den m))
 | 17, [.s (.agg (.op ts)), .s (.c (.f (.int .u32 u))), .s (.c (.f (.int .i64 q)))] => some (.need [FIn ts, inH u.den] (.ret (fnS (fnT ts u.den q.den) (fnI ts u.den q.den) (fnE ts u.den q.den)) m))
 | g, l => conT5 g l m
noncomputable def EP0 : Env := ⟨Tryd.prog, fnOf, conP0, haltAt []⟩
end Go.Proofs.YtldoopjnjlpbpaaDoor
/- Of owns: what has no loops: runs. -/
namespace Go.Proofs.YtldoopjnjlpbpaaDoor
set_option maxRecDepth 100000
theorem of0 (os ts : Array Value) (h k t e : Int) : (run EP0 1000 0 [callFr 9 Tryd.f9.ntmps [osS os, tbS ts, u32 h] (Tryd.f9.body.getD .skip)] e0M).vc (retOk 0 [] (owS k t e) e0M) (fun _ _ => False) =
  ((Array.size ts = (448 : Nat) ∧ True) ∧ (FIn ts ∧ ((0 : Int) ≤ h ∧ h < (4294967296 : Int)) ∧ True) ∧ (((0 : Int) ≤ rtF ts h ∧ rtF ts h < (4294967296 : Int)) ∧ True) ∧ (((!slotOk (rtF ts h)) == false) = true → (((0 : Int) ≤ slotI (rtF ts h) ∧ slotI (rtF ts h) < (32 : Int)) ∧ True) ∧ (IsInt IntKind.u32 os ((0 : Nat) + Int.toNat (slotI (rtF ts h)) * 4) ∧ True) ∧ ((intAt os ((0 : Nat) + Int.toNat (slotI (rtF ts h)) * 4) != rtF ts h) = true → k = (0 : Int) ∧ t = (0 : Int) ∧ e = (0 : Int) ∧ True) ∧ ((intAt os ((0 : Nat) + Int.toNat (slotI (rtF ts h)) * 4) != rtF ts h) = false → (((0 : Int) ≤ slotI (rtF ts h) ∧ slotI (rtF ts h) < (32 : Int)) ∧ True) ∧ (IsInt IntKind.u8 os ((0 : Nat) + Int.toNat (slotI (rtF ts h)) * 4 + 1) ∧ IsInt IntKind.u8 os ((0 : Nat) + Int.toNat (slotI (rtF ts h)) * 4 + 2) ∧ IsInt IntKind.u8 os ((0 : Nat) + Int.toNat (slotI (rtF ts h)) * 4 + 3) ∧ True) ∧ k = intAt os ((0 : Nat) + Int.toNat (slotI (rtF ts h)) * 4 + 1) ∧ t = intAt os ((0 : Nat) + Int.toNat (slotI (rtF ts h)) * 4 + 2) ∧ e = intAt os ((0 : Nat) + Int.toNat (slotI (rtF ts h)) * 4 + 3) ∧ True)) ∧ (((!slotOk (rtF ts h)) == false) = false → k = (0 : Int) ∧ t = (0 : Int) ∧ e = (0 : Int) ∧ True)) := by kernel_rfl
theorem mr0 (ts : Array Value) (h e : Int) : (run EP0 1000 0 [callFr 32 Tryd.f32.ntmps [tbS ts, u32 h] (Tryd.f32.body.getD .skip)] e0M).vc (retOk 0 [] (i64 (.o e)) e0M) (fun _ _ => False) =
  (((64 : Nat) ≤ Array.size ts ∧ True) ∧ (BkOk (Array.extract ts (0 : Nat) (64 : Nat)) ∧ ((0 : Int) ≤ h ∧ h < (4294967296 : Int)) ∧ True) ∧ ((!goodB (Array.extract ts (0 : Nat) (64 : Nat)) h) = true → e = (4 : Int) ∧ True) ∧ ((!goodB (Array.extract ts (0 : Nat) (64 : Nat)) h) = false → (Array.size ts = (448 : Nat) ∧ True) ∧ (FIn ts ∧ ((0 : Int) ≤ h ∧ h < (4294967296 : Int)) ∧ True) ∧ ((rtF ts h != h) = true → e = (12 : Int) ∧ True) ∧ ((rtF ts h != h) = false → e = (0 : Int) ∧ True))) := by kernel_rfl
theorem mt0 (t e : Int) : (run EP0 1000 0 [callFr 33 Tryd.f33.ntmps [i64 (.o t)] (Tryd.f33.body.getD .skip)] e0M).vc (retOk 0 [] (i64 (.o e)) e0M) (fun _ _ => False) =
  (((decide (t < (0 : Int)) == false) = true → (decide (t ≥ (8 : Int)) = true → e = (2 : Int) ∧ True) ∧ (decide (t ≥ (8 : Int)) = false → e = (0 : Int) ∧ True)) ∧ ((decide (t < (0 : Int)) == false) = false → e = (2 : Int) ∧ True)) := by kernel_rfl
theorem ho0 (k t h n : Int) (b : Bool) : (run EP0 1000 0 [callFr 36 Tryd.f36.ntmps [owS k t h, i64 (.o n)] (Tryd.f36.body.getD .skip)] e0M).vc (retOk 0 [] (sB (.o b)) e0M) (fun _ _ => False) =
  (((decide (n < (0 : Int)) == false) = true → (decide (n ≥ (8 : Int)) = true → b = false ∧ True) ∧ (decide (n ≥ (8 : Int)) = false → ((0 : Int) ≤ n ∧ True) ∧ b = (ari BinOp.and IntKind.u8 (ari BinOp.shr IntKind.u8 h n) (1 : Int) == (1 : Int)) ∧ True)) ∧ ((decide (n < (0 : Int)) == false) = false → b = false ∧ True)) := by kernel_rfl
theorem sy0 (os : Array Value) (r k t h : Int) (o : Array Value) : (run EP0 1000 0 [callFr 34 Tryd.f34.ntmps [osS os, u32 r, owS k t h] (Tryd.f34.body.getD .skip)] e0M).vc (retOk 0 [] (osS o) e0M) (fun _ _ => False) =
  ((((0 : Int) ≤ r ∧ r < (4294967296 : Int)) ∧ True) ∧ (((0 : Int) ≤ slotI r ∧ slotI r < (32 : Int)) ∧ True) ∧ ((0 : Nat) + Int.toNat (slotI r) * 4 + List.length [Value.int IntKind.u32 r, Value.int IntKind.u8 k, Value.int IntKind.u8 t, Value.int IntKind.u8 h] ≤ Array.size os ∧ True) ∧ (Array.size (putAt os ((0 : Nat) + Int.toNat (slotI r) * 4) [Value.int IntKind.u32 r, Value.int IntKind.u8 k, Value.int IntKind.u8 t, Value.int IntKind.u8 h]) = (128 : Nat) ∧ True) ∧ (Array.size (putAt os ((0 : Nat) + Int.toNat (slotI r) * 4) [Value.int IntKind.u32 r, Value.int IntKind.u8 k, Value.int IntKind.u8 t, Value.int IntKind.u8 h]) = (128 : Nat) ∧ Array.size (putAt os ((0 : Nat) + Int.toNat (slotI r) * 4) [Value.int IntKind.u32 r, Value.int IntKind.u8 k, Value.int IntKind.u8 t, Value.int IntKind.u8 h]) = (128 : Nat) ∧ True) ∧ (Array.size (putAt os ((0 : Nat) + Int.toNat (slotI r) * 4) [Value.int IntKind.u32 r, Value.int IntKind.u8 k, Value.int IntKind.u8 t, Value.int IntKind.u8 h]) = (128 : Nat) ∧ True) ∧ o = putAt os ((0 : Nat) + Int.toNat (slotI r) * 4) [Value.int IntKind.u32 r, Value.int IntKind.u8 k, Value.int IntKind.u8 t, Value.int IntKind.u8 h] ∧ True) := by kernel_rfl
theorem oc0 (h e : Int) : (run EP0 1000 0 [callFr 37 Tryd.f37.ntmps [.s (.c (.f (.int .u8 (.o h))))] (Tryd.f37.body.getD .skip)] e0M).vc (retOk 0 [] (i64 (.o e)) e0M) (fun _ _ => False) =
  ((((0 : Int) ≤ h ∧ h < (256 : Int)) ∧ True) ∧ e = IntKind.wrap IntKind.i64 (byteAt (popB) (Int.toNat h)) ∧ True) := by kernel_rfl
end Go.Proofs.YtldoopjnjlpbpaaDoor
/- Of owns: Of, mayRoot, mayTask, holds, say, OnesCount8: contracts. No condition. -/
namespace Go.Proofs.YtldoopjnjlpbpaaDoor
set_option maxRecDepth 100000
set_option linter.unusedSimpArgs false
set_option linter.unusedVariables false
theorem conP0_ok : ∀ g l m t, conP0 g l m = some t → Con E0 g l m t := by
 intro g l m t h
 unfold conP0 at h
 split at h
 ·rename_i ts x; cases h
  refine Con.args (l' := [tbS ts, u32 x.den]) (fun R vs ha => by
   match vs, ha with
   | [v, w], ha => exact ⟨ha.1, ha.2.1, trivial⟩) ?_
  exact fell_con x.den m
 ·rename_i ts u q; cases h
  refine Con.asked fun hq => Con.args (l' := [tbS ts, u32 u.den, i64 (.o q.den)]) (fun R vs ha => by
   match vs, ha with
   | [v, w, z], ha => exact ⟨ha.1, ha.2.1, ha.2.2.1, trivial⟩) ?_
  intro A hs
  exact fnew_con u.den q.den m A ⟨fun p hp => hq p hp, hs⟩
 ·exact conT5_ok _ _ _ _ h
theorem EP0_ok : EnvOk EP0 := EnvOk.with E0_ok _ _ conP0_ok
section
variable {os ts : Array Value} {h : Int}
def oR (os : Array Value) (s : Nat) : Int := intAt os (s * 4)
def oK (os : Array Value) (s : Nat) : Int := intAt os (s * 4 + 1)
def oT (os : Array Value) (s : Nat) : Int := intAt os (s * 4 + 2)
def oH (os : Array Value) (s : Nat) : Int := intAt os (s * 4 + 3)
def isO (os ts : Array Value) (h : Int) : Bool := slotOk (rtF ts h) && (oR os (sl (rtF ts h)) == rtF ts h)
def ofK (os ts : Array Value) (h : Int) : Int := if isO os ts h = true then oK os (sl (rtF ts h)) else 0
def ofT (os ts : Array Value) (h : Int) : Int := if isO os ts h = true then oT os (sl (rtF ts h)) else 0
def ofH (os ts : Array Value) (h : Int) : Int := if isO os ts h = true then oH os (sl (rtF ts h)) else 0
theorem rt_in (hf : FIn ts) (h : Int) : inH (rtF ts h) := by
 unfold rtF
 split
 ·rename_i hg
  have hl := (lv_mem hf.ok).2 hg
  exact lv_in hf.ok (.inr (ch_sub hf.fo h (.inr hl) _ (rt_mem hf.fo h (.inr hl) hl).1))
 ·exact ⟨by decide, by decide⟩
theorem of_con (h : Int) (m : SMem) : Con E0 9 [osS os, tbS ts, u32 h] m (needs [OsOk os, FIn ts, inH h] (.ret (owS (ofK os ts h) (ofT os ts h) (ofH os ts h)) m)) := by
 refine Con.pure E0_ok (by kernel_rfl : E0.fn 9 = some Tryd.f9) (by kernel_rfl : Tryd.f9.body = some (Tryd.f9.body.getD .skip)) (by kernel_rfl) (by kernel_rfl) fun hq => ?_
 have ho : OsOk os := hq _ (by simp)
 have hf : FIn ts := hq _ (by simp)
 have hh : inH h := hq _ (by simp)
 have hh' : 0 ≤ h ∧ h < 4294967296 := hh
 have hs := hf.ok.sz
 have hr := rt_in hf h
 have hr' : 0 ≤ rtF ts h ∧ rtF ts h < 4294967296 := hr
 have hsl := slotI_lt hr
 refine (Good.ret [] (run_vc EP0_ok 1000 (of0 os ts h (ofK os ts h) (ofT os ts h) (ofH os ts h)) ?_ (fun s m h => h) fun _ _ h => h.elim)).mono fun _ _ h => h.1
 have es : (slotI (rtF ts h)).toNat = sl (rtF ts h) := rfl
 have s32 : sl (rtF ts h) < 32 := by unfold sl; omega
 have c := ho.c _ s32
 have g0 : IsInt .u32 os (sl (rtF ts h) * 4) := c.r
 have g1 : IsInt .u8 os (sl (rtF ts h) * 4 + 1) := c.k
 have g2 : IsInt .u8 os (sl (rtF ts h) * 4 + 2) := c.t
 have g3 : IsInt .u8 os (sl (rtF ts h) * 4 + 3) := c.h
 have f0 : intAt os (sl (rtF ts h) * 4) = oR os (sl (rtF ts h)) := rfl
 have f1 : intAt os (sl (rtF ts h) * 4 + 1) = oK os (sl (rtF ts h)) := rfl
 have f2 : intAt os (sl (rtF ts h) * 4 + 2) = oT os (sl (rtF ts h)) := rfl
 have f3 : intAt os (sl (rtF ts h) * 4 + 3) = oH os (sl (rtF ts h)) := rfl
 unfold ofK ofT ofH isO
 have q1 := hsl.1
 have q2 := hsl.2
 cases c1 : slotOk (rtF ts h) with
 | false =>
  simp only [hs, hf, hh', hr', Bool.false_and, Bool.not_false, Bool.not_true, beqF, if_false, true_implies, Bool.true_eq_false, Bool.false_eq_true, false_implies, and_true, true_and]
 | true =>
  cases c2 : (oR os (sl (rtF ts h)) == rtF ts h) with
  | false =>
   have c3 : (oR os (sl (rtF ts h)) != rtF ts h) = true := by unfold bne; rw [c2]; rfl
   simp only [hs, hf, hh', hr', q1, q2, es, g0, f0, c2, c3, Nat.zero_add, Bool.and_false, Bool.not_false, Bool.not_true, beqF, if_false, decide_true, true_implies, Bool.true_eq_false, Bool.false_eq_true, false_implies, and_true, true_and]
  | true =>
   have c3 : (oR os (sl (rtF ts h)) != rtF ts h) = false := by unfold bne; rw [c2]; rfl
   simp only [hs, hf, hh', hr', q1, q2, es, g0, g1, g2, g3, f0, f1, f2, f3, c2, c3, Nat.zero_add, Bool.and_true, Bool.not_false, Bool.not_true, beqF, if_true, decide_true, true_implies, Bool.true_eq_false, Bool.false_eq_true, false_implies, and_true, true_and]
def mrE (ts : Array Value) (h : Int) : Int := if gdF ts h = false then 4 else if rtF ts h = h then 0 else 12
theorem mr_con (h : Int) (m : SMem) : Con E0 32 [tbS ts, u32 h] m (needs [FIn ts, inH h] (.ret (i64 (.o (mrE ts h))) m)) := by
 refine Con.pure E0_ok (by kernel_rfl : E0.fn 32 = some Tryd.f32) (by kernel_rfl : Tryd.f32.body = some (Tryd.f32.body.getD .skip)) (by kernel_rfl) (by kernel_rfl) fun hq => ?_
 have hf : FIn ts := hq _ (by simp)
 have hh : inH h := hq _ (by simp)
 have hh' : 0 ≤ h ∧ h < 4294967296 := hh
 have hs := hf.ok.sz
 have h64 : (64 : Nat) ≤ 448 := by decide
 have hbk : BkOk (bkB ts) := hf.ok.bk
 refine (Good.ret [] (run_vc EP0_ok 1000 (mr0 ts h (mrE ts h)) ?_ (fun s m h => h) fun _ _ h => h.elim)).mono fun _ _ h => h.1
 unfold mrE
 cases hg : gdF ts h with
 | false =>
  have hg' : goodB (bkB ts) h = false := hg
  simp only [bk_f, hg', hs, h64, hbk, hf, hh', Bool.not_false, if_true, true_implies, Bool.true_eq_false, Bool.false_eq_true, false_implies, and_true, true_and]
 | true =>
  have hg' : goodB (bkB ts) h = true := hg
  by_cases hr : rtF ts h = h
  ·have d : (rtF ts h != h) = false := by rw [hr]; exact bne_self_eq_false h
   simp only [bk_f, hg', d, if_pos hr, hs, h64, hbk, hf, hh', Bool.not_true, if_false, true_implies, Bool.true_eq_false, Bool.false_eq_true, false_implies, and_true, true_and]
  ·have d : (rtF ts h != h) = true := bne_iff_ne.2 hr
   simp only [bk_f, hg', d, if_neg hr, hs, h64, hbk, hf, hh', Bool.not_true, if_false, true_implies, Bool.true_eq_false, Bool.false_eq_true, false_implies, and_true, true_and]
def mtE (t : Int) : Int := if 0 ≤ t ∧ t < 8 then 0 else 2
theorem mt_con (t : Int) (m : SMem) : Con E0 33 [i64 (.o t)] m (needs [] (.ret (i64 (.o (mtE t))) m)) := by
 refine Con.pure E0_ok (by kernel_rfl : E0.fn 33 = some Tryd.f33) (by kernel_rfl : Tryd.f33.body = some (Tryd.f33.body.getD .skip)) (by kernel_rfl) (by kernel_rfl) fun hq => ?_
 refine (Good.ret [] (run_vc EP0_ok 1000 (mt0 t (mtE t)) ?_ (fun s m h => h) fun _ _ h => h.elim)).mono fun _ _ h => h.1
 unfold mtE
 by_cases c1 : t < 0
 ·have d1 : decide (t < 0) = true := decide_eq_true c1
  simp only [d1, if_neg (show ¬ (0 ≤ t ∧ t < 8) by omega), beqF, Bool.not_true, true_implies, Bool.true_eq_false, Bool.false_eq_true, false_implies, and_true, true_and]
 ·have d1 : decide (t < 0) = false := decide_eq_false c1
  by_cases c2 : 8 ≤ t
  ·have d2 : decide (t ≥ 8) = true := decide_eq_true c2
   simp only [d1, d2, if_neg (show ¬ (0 ≤ t ∧ t < 8) by omega), beqF, Bool.not_false, true_implies, Bool.true_eq_false, Bool.false_eq_true, false_implies, and_true, true_and]
  ·have d2 : decide (t ≥ 8) = false := decide_eq_false c2
   simp only [d1, d2, if_pos (show 0 ≤ t ∧ t < 8 by omega), beqF, Bool.not_false, true_implies, Bool.true_eq_false, Bool.false_eq_true, false_implies, and_true, true_and]
def hoB (h n : Int) : Bool := decide (0 ≤ n ∧ n < 8) && (ari .and .u8 (ari .shr .u8 h n) 1 == 1)
theorem ho_con (k t h n : Int) (m : SMem) : Con E0 36 [owS k t h, i64 (.o n)] m (needs [] (.ret (sB (.o (hoB h n))) m)) := by
 refine Con.pure E0_ok (by kernel_rfl : E0.fn 36 = some Tryd.f36) (by kernel_rfl : Tryd.f36.body = some (Tryd.f36.body.getD .skip)) (by kernel_rfl) (by kernel_rfl) fun hq => ?_
 refine (Good.ret [] (run_vc EP0_ok 1000 (ho0 k t h n (hoB h n)) ?_ (fun s m h => h) fun _ _ h => h.elim)).mono fun _ _ h => h.1
 unfold hoB
 by_cases c1 : n < 0
 ·have d1 : decide (n < 0) = true := decide_eq_true c1
  have d3 : decide (0 ≤ n ∧ n < 8) = false := decide_eq_false (by omega)
  simp only [d1, d3, beqF, Bool.false_and, Bool.not_true, true_implies, Bool.true_eq_false, Bool.false_eq_true, false_implies, and_true, true_and]
 ·have d1 : decide (n < 0) = false := decide_eq_false c1
  by_cases c2 : 8 ≤ n
  ·have d2 : decide (n ≥ 8) = true := decide_eq_true c2
   have d3 : decide (0 ≤ n ∧ n < 8) = false := decide_eq_false (by omega)
   simp only [d1, d2, d3, beqF, Bool.false_and, Bool.not_false, true_implies, Bool.true_eq_false, Bool.false_eq_true, false_implies, and_true, true_and]
  ·have d2 : decide (n ≥ 8) = false := decide_eq_false c2
   have d3 : decide (0 ≤ n ∧ n < 8) = true := decide_eq_true (by omega)
   have y : 0 ≤ n := by omega
   simp only [d1, d2, d3, beqF, Bool.true_and, Bool.not_false, true_implies, Bool.true_eq_false, Bool.false_eq_true, false_implies, and_true, true_and]
   exact y
def sayT (os : Array Value) (r k t h : Int) : Array Value := putAt os (sl r * 4) [.int .u32 r, .int .u8 k, .int .u8 t, .int .u8 h]
theorem say_con (r k t h : Int) (m : SMem) : Con E0 34 [osS os, u32 r, owS k t h] m (needs [OsOk os, inH r] (.ret (osS (sayT os r k t h)) m)) := by
 refine Con.pure E0_ok (by kernel_rfl : E0.fn 34 = some Tryd.f34) (by kernel_rfl : Tryd.f34.body = some (Tryd.f34.body.getD .skip)) (by kernel_rfl) (by kernel_rfl) fun hq => ?_
 have ho : OsOk os := hq _ (by simp)
 have hr : inH r := hq _ (by simp)
 have hr' : 0 ≤ r ∧ r < 4294967296 := hr
 have hsl := slotI_lt hr
 have q1 := hsl.1
 have q2 := hsl.2
 have hs := ho.sz
 refine (Good.ret [] (run_vc EP0_ok 1000 (sy0 os r k t h (sayT os r k t h)) ?_ (fun s m h => h) fun _ _ h => h.elim)).mono fun _ _ h => h.1
 have es : (slotI r).toNat = sl r := rfl
 have s32 : sl r < 32 := by unfold sl; omega
 have y : sl r * 4 + (0 + 1 + 1 + 1 + 1) ≤ 128 := by omega
 have e : putAt os (sl r * 4) [.int .u32 r, .int .u8 k, .int .u8 t, .int .u8 h] = sayT os r k t h := rfl
 have sz : (sayT os r k t h).size = 128 := by unfold sayT; rw [putAt_size (by rw [hs]; exact y)]; exact hs
 simp only [hr', q1, q2, es, e, hs, sz, List.length_cons, List.length_nil, Nat.zero_add, decide_true, and_true, true_and]
 omega
def oc8 (h : Int) : Int := IntKind.i64.wrap (byteAt popB h.toNat)
theorem oc_con (h : Int) (m : SMem) : Con E0 37 [.s (.c (.f (.int .u8 (.o h))))] m (needs [0 ≤ h ∧ h ≤ 255] (.ret (i64 (.o (oc8 h))) m)) := by
 refine Con.pure E0_ok (by kernel_rfl : E0.fn 37 = some Tryd.f37) (by kernel_rfl : Tryd.f37.body = some (Tryd.f37.body.getD .skip)) (by kernel_rfl) (by kernel_rfl) fun hq => ?_
 have hh : 0 ≤ h ∧ h ≤ 255 := hq _ (by simp)
 refine (Good.ret [] (run_vc EP0_ok 1000 (oc0 h (oc8 h)) ?_ (fun s m h => h) fun _ _ h => h.elim)).mono fun _ _ h => h.1
 refine ⟨⟨⟨hh.1, by omega⟩, trivial⟩, rfl, ?_⟩
 first | trivial | exact ⟨rfl, trivial⟩
end
end Go.Proofs.YtldoopjnjlpbpaaDoor
/- Of owns: Give, Fly, Freeze, Hold, Drop: runs. No condition. -/
namespace Go.Proofs.YtldoopjnjlpbpaaDoor
set_option linter.unusedVariables false
noncomputable def conP1 (g : FuncId) (l : List SV) (m : SMem) : Option Tree := match g, l with
 | 9, [.s (.agg (.op os)), .s (.agg (.op ts)), .s (.c (.f (.int .u32 h)))] => some (.need [OsOk os, FIn ts, inH h.den] (.ret (owS (ofK os ts h.den) (ofT os ts h.den) (ofH os ts h.den)) m))
 | 32, [.s (.agg (.op ts)), .s (.c (.f (.int .u32 h)))] => some (.need [FIn ts, inH h.den] (.ret (i64 (.o (mrE ts h.den))) m))
 | 33, [.s (.c (.f (.int .i64 t)))] => some (.ret (i64 (.o (mtE t.den))) m)
 | 36, [.s (.agg (.ls [.f (.int .u8 _), .f (.int .u8 _), .f (.int .u8 h)])), .s (.c (.f (.int .i64 n)))] => some (.ret (sB (.o (hoB h.den n.den))) m)
 | 34, [.s (.agg (.op os)), .s (.c (.f (.int .u32 r))), .s (.agg (.ls [.f (.int .u8 k), .f (.int .u8 t), .f (.int .u8 h)]))] => some (.need [OsOk os, inH r.den] (.ret (osS (sayT os r.den k.den t.den h.den)) m))
 | 37, [.s (.c (.f (.int .u8 h)))] => some (.need [0 ≤ h.den ∧ h.den ≤ 255] (.ret (i64 (.o (oc8 h.den))) m))
 | g, l => conP0 g l m
noncomputable def EP1 : Env := ⟨Tryd.prog, fnOf, conP1, haltAt []⟩
noncomputable def opS (o : Array Value) (e : Int) : SV := .tup [.agg (.op o), .c (.f (.int .i64 (.o e)))]
noncomputable def opS3 (o : Array Value) (n e : Int) : SV := .tup [.agg (.op o), .c (.f (.int .i64 (.o n))), .c (.f (.int .i64 (.o e)))]
end Go.Proofs.YtldoopjnjlpbpaaDoor
/- Of owns: Give, Fly, Freeze, Hold, Drop: runs. -/
namespace Go.Proofs.YtldoopjnjlpbpaaDoor
set_option maxRecDepth 100000
theorem gi0 (os ts : Array Value) (h t : Int) (o : Array Value) (e : Int) : (run EP1 1000 0 [callFr 12 Tryd.f12.ntmps [osS os, tbS ts, u32 h, i64 (.o t)] (Tryd.f12.body.getD .skip)] e0M).vc (retOk 0 [] (opS o e) e0M) (fun _ _ => False) =
  ((Array.size ts = (448 : Nat) ∧ True) ∧ (FIn ts ∧ ((0 : Int) ≤ h ∧ h < (4294967296 : Int)) ∧ True) ∧ ((mrE ts h != (0 : Int)) = true → ((mrE ts h != (0 : Int)) = true → (Array.size os = (128 : Nat) ∧ True) ∧ (Array.size os = (128 : Nat) ∧ Array.size os = (128 : Nat) ∧ True) ∧ (Array.size os = (128 : Nat) ∧ True) ∧ o = os ∧ e = mrE ts h ∧ True) ∧ ((mrE ts h != (0 : Int)) = false → (Array.size os = (128 : Nat) ∧ True) ∧ (OsOk os ∧ ((0 : Int) ≤ h ∧ h < (4294967296 : Int)) ∧ True) ∧ (Array.size (sayT os h (1 : Int) (IntKind.wrap IntKind.u8 t) (0 : Int)) = (128 : Nat) ∧ Array.size (sayT os h (1 : Int) (IntKind.wrap IntKind.u8 t) (0 : Int)) = (128 : Nat) ∧ True) ∧ (Array.size (sayT os h (1 : Int) (IntKind.wrap IntKind.u8 t) (0 : Int)) = (128 : Nat) ∧ True) ∧ o = sayT os h (1 : Int) (IntKind.wrap IntKind.u8 t) (0 : Int) ∧ e = (0 : Int) ∧ True)) ∧ ((mrE ts h != (0 : Int)) = false → ((mtE t != (0 : Int)) = true → ((mtE t != (0 : Int)) = true → (Array.size os = (128 : Nat) ∧ True) ∧ (Array.size os = (128 : Nat) ∧ Array.size os = (128 : Nat) ∧ True) ∧ (Array.size os = (128 : Nat) ∧ True) ∧ o = os ∧ e = mtE t ∧ True) ∧ ((mtE t != (0 : Int)) = false → (Array.size os = (128 : Nat) ∧ True) ∧ (OsOk os ∧ ((0 : Int) ≤ h ∧ h < (4294967296 : Int)) ∧ True) ∧ (Array.size (sayT os h (1 : Int) (IntKind.wrap IntKind.u8 t) (0 : Int)) = (128 : Nat) ∧ Array.size (sayT os h (1 : Int) (IntKind.wrap IntKind.u8 t) (0 : Int)) = (128 : Nat) ∧ True) ∧ (Array.size (sayT os h (1 : Int) (IntKind.wrap IntKind.u8 t) (0 : Int)) = (128 : Nat) ∧ True) ∧ o = sayT os h (1 : Int) (IntKind.wrap IntKind.u8 t) (0 : Int) ∧ e = (0 : Int) ∧ True)) ∧ ((mtE t != (0 : Int)) = false → (Array.size os = (128 : Nat) ∧ True) ∧ (OsOk os ∧ ((0 : Int) ≤ h ∧ h < (4294967296 : Int)) ∧ True) ∧ (Array.size (sayT os h (1 : Int) (IntKind.wrap IntKind.u8 t) (0 : Int)) = (128 : Nat) ∧ Array.size (sayT os h (1 : Int) (IntKind.wrap IntKind.u8 t) (0 : Int)) = (128 : Nat) ∧ True) ∧ (Array.size (sayT os h (1 : Int) (IntKind.wrap IntKind.u8 t) (0 : Int)) = (128 : Nat) ∧ True) ∧ o = sayT os h (1 : Int) (IntKind.wrap IntKind.u8 t) (0 : Int) ∧ e = (0 : Int) ∧ True))) := by kernel_rfl
theorem fr0 (os ts : Array Value) (h t : Int) (o : Array Value) (e : Int) : (run EP1 1000 0 [callFr 13 Tryd.f13.ntmps [osS os, tbS ts, u32 h, i64 (.o t)] (Tryd.f13.body.getD .skip)] e0M).vc (retOk 0 [] (opS o e) e0M) (fun _ _ => False) =
  ((Array.size ts = (448 : Nat) ∧ True) ∧ (FIn ts ∧ ((0 : Int) ≤ h ∧ h < (4294967296 : Int)) ∧ True) ∧ ((mrE ts h != (0 : Int)) = true → ((mrE ts h != (0 : Int)) = true → (Array.size os = (128 : Nat) ∧ True) ∧ (Array.size os = (128 : Nat) ∧ Array.size os = (128 : Nat) ∧ True) ∧ (Array.size os = (128 : Nat) ∧ True) ∧ o = os ∧ e = mrE ts h ∧ True) ∧ ((mrE ts h != (0 : Int)) = false → (Array.size os = (128 : Nat) ∧ True) ∧ ((0 : Int) ≤ t ∧ True) ∧ (OsOk os ∧ ((0 : Int) ≤ h ∧ h < (4294967296 : Int)) ∧ True) ∧ (Array.size (sayT os h (3 : Int) (0 : Int) (ari BinOp.shl IntKind.u8 (1 : Int) t)) = (128 : Nat) ∧ Array.size (sayT os h (3 : Int) (0 : Int) (ari BinOp.shl IntKind.u8 (1 : Int) t)) = (128 : Nat) ∧ True) ∧ (Array.size (sayT os h (3 : Int) (0 : Int) (ari BinOp.shl IntKind.u8 (1 : Int) t)) = (128 : Nat) ∧ True) ∧ o = sayT os h (3 : Int) (0 : Int) (ari BinOp.shl IntKind.u8 (1 : Int) t) ∧ e = (0 : Int) ∧ True)) ∧ ((mrE ts h != (0 : Int)) = false → ((mtE t != (0 : Int)) = true → ((mtE t != (0 : Int)) = true → (Array.size os = (128 : Nat) ∧ True) ∧ (Array.size os = (128 : Nat) ∧ Array.size os = (128 : Nat) ∧ True) ∧ (Array.size os = (128 : Nat) ∧ True) ∧ o = os ∧ e = mtE t ∧ True) ∧ ((mtE t != (0 : Int)) = false → (Array.size os = (128 : Nat) ∧ True) ∧ ((0 : Int) ≤ t ∧ True) ∧ (OsOk os ∧ ((0 : Int) ≤ h ∧ h < (4294967296 : Int)) ∧ True) ∧ (Array.size (sayT os h (3 : Int) (0 : Int) (ari BinOp.shl IntKind.u8 (1 : Int) t)) = (128 : Nat) ∧ Array.size (sayT os h (3 : Int) (0 : Int) (ari BinOp.shl IntKind.u8 (1 : Int) t)) = (128 : Nat) ∧ True) ∧ (Array.size (sayT os h (3 : Int) (0 : Int) (ari BinOp.shl IntKind.u8 (1 : Int) t)) = (128 : Nat) ∧ True) ∧ o = sayT os h (3 : Int) (0 : Int) (ari BinOp.shl IntKind.u8 (1 : Int) t) ∧ e = (0 : Int) ∧ True)) ∧ ((mtE t != (0 : Int)) = false → (Array.size os = (128 : Nat) ∧ True) ∧ ((0 : Int) ≤ t ∧ True) ∧ (OsOk os ∧ ((0 : Int) ≤ h ∧ h < (4294967296 : Int)) ∧ True) ∧ (Array.size (sayT os h (3 : Int) (0 : Int) (ari BinOp.shl IntKind.u8 (1 : Int) t)) = (128 : Nat) ∧ Array.size (sayT os h (3 : Int) (0 : Int) (ari BinOp.shl IntKind.u8 (1 : Int) t)) = (128 : Nat) ∧ True) ∧ (Array.size (sayT os h (3 : Int) (0 : Int) (ari BinOp.shl IntKind.u8 (1 : Int) t)) = (128 : Nat) ∧ True) ∧ o = sayT os h (3 : Int) (0 : Int) (ari BinOp.shl IntKind.u8 (1 : Int) t) ∧ e = (0 : Int) ∧ True))) := by kernel_rfl
theorem fl0 (os ts : Array Value) (h : Int) (o : Array Value) (e : Int) : (run EP1 1000 0 [callFr 14 Tryd.f14.ntmps [osS os, tbS ts, u32 h] (Tryd.f14.body.getD .skip)] e0M).vc (retOk 0 [] (opS o e) e0M) (fun _ _ => False) =
  ((Array.size ts = (448 : Nat) ∧ True) ∧ (FIn ts ∧ ((0 : Int) ≤ h ∧ h < (4294967296 : Int)) ∧ True) ∧ ((mrE ts h != (0 : Int)) = true → (Array.size os = (128 : Nat) ∧ True) ∧ (Array.size os = (128 : Nat) ∧ Array.size os = (128 : Nat) ∧ True) ∧ (Array.size os = (128 : Nat) ∧ True) ∧ o = os ∧ e = mrE ts h ∧ True) ∧ ((mrE ts h != (0 : Int)) = false → (Array.size os = (128 : Nat) ∧ True) ∧ (OsOk os ∧ ((0 : Int) ≤ h ∧ h < (4294967296 : Int)) ∧ True) ∧ (Array.size (sayT os h (2 : Int) (0 : Int) (0 : Int)) = (128 : Nat) ∧ Array.size (sayT os h (2 : Int) (0 : Int) (0 : Int)) = (128 : Nat) ∧ True) ∧ (Array.size (sayT os h (2 : Int) (0 : Int) (0 : Int)) = (128 : Nat) ∧ True) ∧ o = sayT os h (2 : Int) (0 : Int) (0 : Int) ∧ e = (0 : Int) ∧ True)) := by kernel_rfl
theorem hd0 (os ts : Array Value) (h t : Int) (o : Array Value) (e : Int) : (run EP1 1000 0 [callFr 15 Tryd.f15.ntmps [osS os, tbS ts, u32 h, i64 (.o t)] (Tryd.f15.body.getD .skip)] e0M).vc (retOk 0 [] (opS o e) e0M) (fun _ _ => False) =
  ((Array.size ts = (448 : Nat) ∧ True) ∧ (FIn ts ∧ ((0 : Int) ≤ h ∧ h < (4294967296 : Int)) ∧ True) ∧ (Array.size os = (128 : Nat) ∧ True) ∧ (Array.size ts = (448 : Nat) ∧ True) ∧ (Array.size os = (128 : Nat) ∧ True) ∧ (Array.size ts = (448 : Nat) ∧ True) ∧ (OsOk os ∧ FIn ts ∧ ((0 : Int) ≤ h ∧ h < (4294967296 : Int)) ∧ True) ∧ ((ofK os ts h != (3 : Int)) = true → ((mrE ts h != (0 : Int)) = true → ((mrE ts h != (0 : Int)) = true → (Array.size os = (128 : Nat) ∧ True) ∧ (Array.size os = (128 : Nat) ∧ Array.size os = (128 : Nat) ∧ True) ∧ (Array.size os = (128 : Nat) ∧ True) ∧ o = os ∧ e = mrE ts h ∧ True) ∧ ((mrE ts h != (0 : Int)) = false → (Array.size os = (128 : Nat) ∧ True) ∧ (Array.size ts = (448 : Nat) ∧ True) ∧ (OsOk os ∧ FIn ts ∧ ((0 : Int) ≤ h ∧ h < (4294967296 : Int)) ∧ True) ∧ (hoB (ofH os ts h) t = true → (Array.size os = (128 : Nat) ∧ True) ∧ (Array.size os = (128 : Nat) ∧ Array.size os = (128 : Nat) ∧ True) ∧ (Array.size os = (128 : Nat) ∧ True) ∧ o = os ∧ e = (7 : Int) ∧ True) ∧ (hoB (ofH os ts h) t = false → ((0 : Int) ≤ t ∧ True) ∧ (Array.size os = (128 : Nat) ∧ True) ∧ (OsOk os ∧ ((0 : Int) ≤ h ∧ h < (4294967296 : Int)) ∧ True) ∧ (Array.size (sayT os h (ofK os ts h) (ofT os ts h) (ari BinOp.or IntKind.u8 (ofH os ts h) (ari BinOp.shl IntKind.u8 (1 : Int) t))) = (128 : Nat) ∧ Array.size (sayT os h (ofK os ts h) (ofT os ts h) (ari BinOp.or IntKind.u8 (ofH os ts h) (ari BinOp.shl IntKind.u8 (1 : Int) t))) = (128 : Nat) ∧ True) ∧ (Array.size (sayT os h (ofK os ts h) (ofT os ts h) (ari BinOp.or IntKind.u8 (ofH os ts h) (ari BinOp.shl IntKind.u8 (1 : Int) t))) = (128 : Nat) ∧ True) ∧ o = sayT os h (ofK os ts h) (ofT os ts h) (ari BinOp.or IntKind.u8 (ofH os ts h) (ari BinOp.shl IntKind.u8 (1 : Int) t)) ∧ e = (0 : Int) ∧ True))) ∧ ((mrE ts h != (0 : Int)) = false → (Array.size os = (128 : Nat) ∧ True) ∧ (Array.size os = (128 : Nat) ∧ Array.size os = (128 : Nat) ∧ True) ∧ (Array.size os = (128 : Nat) ∧ True) ∧ o = os ∧ e = (12 : Int) ∧ True)) ∧ ((ofK os ts h != (3 : Int)) = false → ((mrE ts h != (0 : Int)) = true → ((mrE ts h != (0 : Int)) = true → (Array.size os = (128 : Nat) ∧ True) ∧ (Array.size os = (128 : Nat) ∧ Array.size os = (128 : Nat) ∧ True) ∧ (Array.size os = (128 : Nat) ∧ True) ∧ o = os ∧ e = mrE ts h ∧ True) ∧ ((mrE ts h != (0 : Int)) = false → (Array.size os = (128 : Nat) ∧ True) ∧ (Array.size ts = (448 : Nat) ∧ True) ∧ (OsOk os ∧ FIn ts ∧ ((0 : Int) ≤ h ∧ h < (4294967296 : Int)) ∧ True) ∧ (hoB (ofH os ts h) t = true → (Array.size os = (128 : Nat) ∧ True) ∧ (Array.size os = (128 : Nat) ∧ Array.size os = (128 : Nat) ∧ True) ∧ (Array.size os = (128 : Nat) ∧ True) ∧ o = os ∧ e = (7 : Int) ∧ True) ∧ (hoB (ofH os ts h) t = false → ((0 : Int) ≤ t ∧ True) ∧ (Array.size os = (128 : Nat) ∧ True) ∧ (OsOk os ∧ ((0 : Int) ≤ h ∧ h < (4294967296 : Int)) ∧ True) ∧ (Array.size (sayT os h (ofK os ts h) (ofT os ts h) (ari BinOp.or IntKind.u8 (ofH os ts h) (ari BinOp.shl IntKind.u8 (1 : Int) t))) = (128 : Nat) ∧ Array.size (sayT os h (ofK os ts h) (ofT os ts h) (ari BinOp.or IntKind.u8 (ofH os ts h) (ari BinOp.shl IntKind.u8 (1 : Int) t))) = (128 : Nat) ∧ True) ∧ (Array.size (sayT os h (ofK os ts h) (ofT os ts h) (ari BinOp.or IntKind.u8 (ofH os ts h) (ari BinOp.shl IntKind.u8 (1 : Int) t))) = (128 : Nat) ∧ True) ∧ o = sayT os h (ofK os ts h) (ofT os ts h) (ari BinOp.or IntKind.u8 (ofH os ts h) (ari BinOp.shl IntKind.u8 (1 : Int) t)) ∧ e = (0 : Int) ∧ True))) ∧ ((mrE ts h != (0 : Int)) = false → ((mtE t != (0 : Int)) = true → ((mtE t != (0 : Int)) = true → (Array.size os = (128 : Nat) ∧ True) ∧ (Array.size os = (128 : Nat) ∧ Array.size os = (128 : Nat) ∧ True) ∧ (Array.size os = (128 : Nat) ∧ True) ∧ o = os ∧ e = mtE t ∧ True) ∧ ((mtE t != (0 : Int)) = false → (Array.size os = (128 : Nat) ∧ True) ∧ (Array.size ts = (448 : Nat) ∧ True) ∧ (OsOk os ∧ FIn ts ∧ ((0 : Int) ≤ h ∧ h < (4294967296 : Int)) ∧ True) ∧ (hoB (ofH os ts h) t = true → (Array.size os = (128 : Nat) ∧ True) ∧ (Array.size os = (128 : Nat) ∧ Array.size os = (128 : Nat) ∧ True) ∧ (Array.size os = (128 : Nat) ∧ True) ∧ o = os ∧ e = (7 : Int) ∧ True) ∧ (hoB (ofH os ts h) t = false → ((0 : Int) ≤ t ∧ True) ∧ (Array.size os = (128 : Nat) ∧ True) ∧ (OsOk os ∧ ((0 : Int) ≤ h ∧ h < (4294967296 : Int)) ∧ True) ∧ (Array.size (sayT os h (ofK os ts h) (ofT os ts h) (ari BinOp.or IntKind.u8 (ofH os ts h) (ari BinOp.shl IntKind.u8 (1 : Int) t))) = (128 : Nat) ∧ Array.size (sayT os h (ofK os ts h) (ofT os ts h) (ari BinOp.or IntKind.u8 (ofH os ts h) (ari BinOp.shl IntKind.u8 (1 : Int) t))) = (128 : Nat) ∧ True) ∧ (Array.size (sayT os h (ofK os ts h) (ofT os ts h) (ari BinOp.or IntKind.u8 (ofH os ts h) (ari BinOp.shl IntKind.u8 (1 : Int) t))) = (128 : Nat) ∧ True) ∧ o = sayT os h (ofK os ts h) (ofT os ts h) (ari BinOp.or IntKind.u8 (ofH os ts h) (ari BinOp.shl IntKind.u8 (1 : Int) t)) ∧ e = (0 : Int) ∧ True))) ∧ ((mtE t != (0 : Int)) = false → (Array.size os = (128 : Nat) ∧ True) ∧ (Array.size ts = (448 : Nat) ∧ True) ∧ (OsOk os ∧ FIn ts ∧ ((0 : Int) ≤ h ∧ h < (4294967296 : Int)) ∧ True) ∧ (hoB (ofH os ts h) t = true → (Array.size os = (128 : Nat) ∧ True) ∧ (Array.size os = (128 : Nat) ∧ Array.size os = (128 : Nat) ∧ True) ∧ (Array.size os = (128 : Nat) ∧ True) ∧ o = os ∧ e = (7 : Int) ∧ True) ∧ (hoB (ofH os ts h) t = false → ((0 : Int) ≤ t ∧ True) ∧ (Array.size os = (128 : Nat) ∧ True) ∧ (OsOk os ∧ ((0 : Int) ≤ h ∧ h < (4294967296 : Int)) ∧ True) ∧ (Array.size (sayT os h (ofK os ts h) (ofT os ts h) (ari BinOp.or IntKind.u8 (ofH os ts h) (ari BinOp.shl IntKind.u8 (1 : Int) t))) = (128 : Nat) ∧ Array.size (sayT os h (ofK os ts h) (ofT os ts h) (ari BinOp.or IntKind.u8 (ofH os ts h) (ari BinOp.shl IntKind.u8 (1 : Int) t))) = (128 : Nat) ∧ True) ∧ (Array.size (sayT os h (ofK os ts h) (ofT os ts h) (ari BinOp.or IntKind.u8 (ofH os ts h) (ari BinOp.shl IntKind.u8 (1 : Int) t))) = (128 : Nat) ∧ True) ∧ o = sayT os h (ofK os ts h) (ofT os ts h) (ari BinOp.or IntKind.u8 (ofH os ts h) (ari BinOp.shl IntKind.u8 (1 : Int) t)) ∧ e = (0 : Int) ∧ True))))) := by kernel_rfl
theorem dr0 (os ts : Array Value) (h t : Int) (o : Array Value) (n e : Int) : (run EP1 1000 0 [callFr 16 Tryd.f16.ntmps [osS os, tbS ts, u32 h, i64 (.o t)] (Tryd.f16.body.getD .skip)] e0M).vc (retOk 0 [] (opS3 o n e) e0M) (fun _ _ => False) =
  ((Array.size ts = (448 : Nat) ∧ True) ∧ (FIn ts ∧ ((0 : Int) ≤ h ∧ h < (4294967296 : Int)) ∧ True) ∧ (Array.size os = (128 : Nat) ∧ True) ∧ (Array.size ts = (448 : Nat) ∧ True) ∧ (Array.size os = (128 : Nat) ∧ True) ∧ (Array.size ts = (448 : Nat) ∧ True) ∧ (OsOk os ∧ FIn ts ∧ ((0 : Int) ≤ h ∧ h < (4294967296 : Int)) ∧ True) ∧ ((ofK os ts h != (3 : Int)) = true → ((mrE ts h != (0 : Int)) = true → ((mrE ts h != (0 : Int)) = true → (Array.size os = (128 : Nat) ∧ True) ∧ (Array.size os = (128 : Nat) ∧ Array.size os = (128 : Nat) ∧ True) ∧ (Array.size os = (128 : Nat) ∧ True) ∧ o = os ∧ n = (0 : Int) ∧ e = mrE ts h ∧ True) ∧ ((mrE ts h != (0 : Int)) = false → (Array.size os = (128 : Nat) ∧ True) ∧ (Array.size ts = (448 : Nat) ∧ True) ∧ (OsOk os ∧ FIn ts ∧ ((0 : Int) ≤ h ∧ h < (4294967296 : Int)) ∧ True) ∧ ((!hoB (ofH os ts h) t) = true → (Array.size os = (128 : Nat) ∧ True) ∧ (Array.size os = (128 : Nat) ∧ Array.size os = (128 : Nat) ∧ True) ∧ (Array.size os = (128 : Nat) ∧ True) ∧ o = os ∧ n = (0 : Int) ∧ e = (5 : Int) ∧ True) ∧ ((!hoB (ofH os ts h) t) = false → ((0 : Int) ≤ t ∧ True) ∧ (Array.size os = (128 : Nat) ∧ True) ∧ (OsOk os ∧ ((0 : Int) ≤ h ∧ h < (4294967296 : Int)) ∧ True) ∧ (((0 : Int) ≤ ari BinOp.andNot IntKind.u8 (ofH os ts h) (ari BinOp.shl IntKind.u8 (1 : Int) t) ∧ ari BinOp.andNot IntKind.u8 (ofH os ts h) (ari BinOp.shl IntKind.u8 (1 : Int) t) ≤ (255 : Int)) ∧ True) ∧ (Array.size (sayT os h (ofK os ts h) (ofT os ts h) (ari BinOp.andNot IntKind.u8 (ofH os ts h) (ari BinOp.shl IntKind.u8 (1 : Int) t))) = (128 : Nat) ∧ Array.size (sayT os h (ofK os ts h) (ofT os ts h) (ari BinOp.andNot IntKind.u8 (ofH os ts h) (ari BinOp.shl IntKind.u8 (1 : Int) t))) = (128 : Nat) ∧ True) ∧ (Array.size (sayT os h (ofK os ts h) (ofT os ts h) (ari BinOp.andNot IntKind.u8 (ofH os ts h) (ari BinOp.shl IntKind.u8 (1 : Int) t))) = (128 : Nat) ∧ True) ∧ o = sayT os h (ofK os ts h) (ofT os ts h) (ari BinOp.andNot IntKind.u8 (ofH os ts h) (ari BinOp.shl IntKind.u8 (1 : Int) t)) ∧ n = oc8 (ari BinOp.andNot IntKind.u8 (ofH os ts h) (ari BinOp.shl IntKind.u8 (1 : Int) t)) ∧ e = (0 : Int) ∧ True))) ∧ ((mrE ts h != (0 : Int)) = false → (Array.size os = (128 : Nat) ∧ True) ∧ (Array.size os = (128 : Nat) ∧ Array.size os = (128 : Nat) ∧ True) ∧ (Array.size os = (128 : Nat) ∧ True) ∧ o = os ∧ n = (0 : Int) ∧ e = (12 : Int) ∧ True)) ∧ ((ofK os ts h != (3 : Int)) = false → ((mrE ts h != (0 : Int)) = true → ((mrE ts h != (0 : Int)) = true → (Array.size os = (128 : Nat) ∧ True) ∧ (Array.size os = (128 : Nat) ∧ Array.size os = (128 : Nat) ∧ True) ∧ (Array.size os = (128 : Nat) ∧ True) ∧ o = os ∧ n = (0 : Int) ∧ e = mrE ts h ∧ True) ∧ ((mrE ts h != (0 : Int)) = false → (Array.size os = (128 : Nat) ∧ True) ∧ (Array.size ts = (448 : Nat) ∧ True) ∧ (OsOk os ∧ FIn ts ∧ ((0 : Int) ≤ h ∧ h < (4294967296 : Int)) ∧ True) ∧ ((!hoB (ofH os ts h) t) = true → (Array.size os = (128 : Nat) ∧ True) ∧ (Array.size os = (128 : Nat) ∧ Array.size os = (128 : Nat) ∧ True) ∧ (Array.size os = (128 : Nat) ∧ True) ∧ o = os ∧ n = (0 : Int) ∧ e = (5 : Int) ∧ True) ∧ ((!hoB (ofH os ts h) t) = false → ((0 : Int) ≤ t ∧ True) ∧ (Array.size os = (128 : Nat) ∧ True) ∧ (OsOk os ∧ ((0 : Int) ≤ h ∧ h < (4294967296 : Int)) ∧ True) ∧ (((0 : Int) ≤ ari BinOp.andNot IntKind.u8 (ofH os ts h) (ari BinOp.shl IntKind.u8 (1 : Int) t) ∧ ari BinOp.andNot IntKind.u8 (ofH os ts h) (ari BinOp.shl IntKind.u8 (1 : Int) t) ≤ (255 : Int)) ∧ True) ∧ (Array.size (sayT os h (ofK os ts h) (ofT os ts h) (ari BinOp.andNot IntKind.u8 (ofH os ts h) (ari BinOp.shl IntKind.u8 (1 : Int) t))) = (128 : Nat) ∧ Array.size (sayT os h (ofK os ts h) (ofT os ts h) (ari BinOp.andNot IntKind.u8 (ofH os ts h) (ari BinOp.shl IntKind.u8 (1 : Int) t))) = (128 : Nat) ∧ True) ∧ (Array.size (sayT os h (ofK os ts h) (ofT os ts h) (ari BinOp.andNot IntKind.u8 (ofH os ts h) (ari BinOp.shl IntKind.u8 (1 : Int) t))) = (128 : Nat) ∧ True) ∧ o = sayT os h (ofK os ts h) (ofT os ts h) (ari BinOp.andNot IntKind.u8 (ofH os ts h) (ari BinOp.shl IntKind.u8 (1 : Int) t)) ∧ n = oc8 (ari BinOp.andNot IntKind.u8 (ofH os ts h) (ari BinOp.shl IntKind.u8 (1 : Int) t)) ∧ e = (0 : Int) ∧ True))) ∧ ((mrE ts h != (0 : Int)) = false → ((mtE t != (0 : Int)) = true → ((mtE t != (0 : Int)) = true → (Array.size os = (128 : Nat) ∧ True) ∧ (Array.size os = (128 : Nat) ∧ Array.size os = (128 : Nat) ∧ True) ∧ (Array.size os = (128 : Nat) ∧ True) ∧ o = os ∧ n = (0 : Int) ∧ e = mtE t ∧ True) ∧ ((mtE t != (0 : Int)) = false → (Array.size os = (128 : Nat) ∧ True) ∧ (Array.size ts = (448 : Nat) ∧ True) ∧ (OsOk os ∧ FIn ts ∧ ((0 : Int) ≤ h ∧ h < (4294967296 : Int)) ∧ True) ∧ ((!hoB (ofH os ts h) t) = true → (Array.size os = (128 : Nat) ∧ True) ∧ (Array.size os = (128 : Nat) ∧ Array.size os = (128 : Nat) ∧ True) ∧ (Array.size os = (128 : Nat) ∧ True) ∧ o = os ∧ n = (0 : Int) ∧ e = (5 : Int) ∧ True) ∧ ((!hoB (ofH os ts h) t) = false → ((0 : Int) ≤ t ∧ True) ∧ (Array.size os = (128 : Nat) ∧ True) ∧ (OsOk os ∧ ((0 : Int) ≤ h ∧ h < (4294967296 : Int)) ∧ True) ∧ (((0 : Int) ≤ ari BinOp.andNot IntKind.u8 (ofH os ts h) (ari BinOp.shl IntKind.u8 (1 : Int) t) ∧ ari BinOp.andNot IntKind.u8 (ofH os ts h) (ari BinOp.shl IntKind.u8 (1 : Int) t) ≤ (255 : Int)) ∧ True) ∧ (Array.size (sayT os h (ofK os ts h) (ofT os ts h) (ari BinOp.andNot IntKind.u8 (ofH os ts h) (ari BinOp.shl IntKind.u8 (1 : Int) t))) = (128 : Nat) ∧ Array.size (sayT os h (ofK os ts h) (ofT os ts h) (ari BinOp.andNot IntKind.u8 (ofH os ts h) (ari BinOp.shl IntKind.u8 (1 : Int) t))) = (128 : Nat) ∧ True) ∧ (Array.size (sayT os h (ofK os ts h) (ofT os ts h) (ari BinOp.andNot IntKind.u8 (ofH os ts h) (ari BinOp.shl IntKind.u8 (1 : Int) t))) = (128 : Nat) ∧ True) ∧ o = sayT os h (ofK os ts h) (ofT os ts h) (ari BinOp.andNot IntKind.u8 (ofH os ts h) (ari BinOp.shl IntKind.u8 (1 : Int) t)) ∧ n = oc8 (ari BinOp.andNot IntKind.u8 (ofH os ts h) (ari BinOp.shl IntKind.u8 (1 : Int) t)) ∧ e = (0 : Int) ∧ True))) ∧ ((mtE t != (0 : Int)) = false → (Array.size os = (128 : Nat) ∧ True) ∧ (Array.size ts = (448 : Nat) ∧ True) ∧ (OsOk os ∧ FIn ts ∧ ((0 : Int) ≤ h ∧ h < (4294967296 : Int)) ∧ True) ∧ ((!hoB (ofH os ts h) t) = true → (Array.size os = (128 : Nat) ∧ True) ∧ (Array.size os = (128 : Nat) ∧ Array.size os = (128 : Nat) ∧ True) ∧ (Array.size os = (128 : Nat) ∧ True) ∧ o = os ∧ n = (0 : Int) ∧ e = (5 : Int) ∧ True) ∧ ((!hoB (ofH os ts h) t) = false → ((0 : Int) ≤ t ∧ True) ∧ (Array.size os = (128 : Nat) ∧ True) ∧ (OsOk os ∧ ((0 : Int) ≤ h ∧ h < (4294967296 : Int)) ∧ True) ∧ (((0 : Int) ≤ ari BinOp.andNot IntKind.u8 (ofH os ts h) (ari BinOp.shl IntKind.u8 (1 : Int) t) ∧ ari BinOp.andNot IntKind.u8 (ofH os ts h) (ari BinOp.shl IntKind.u8 (1 : Int) t) ≤ (255 : Int)) ∧ True) ∧ (Array.size (sayT os h (ofK os ts h) (ofT os ts h) (ari BinOp.andNot IntKind.u8 (ofH os ts h) (ari BinOp.shl IntKind.u8 (1 : Int) t))) = (128 : Nat) ∧ Array.size (sayT os h (ofK os ts h) (ofT os ts h) (ari BinOp.andNot IntKind.u8 (ofH os ts h) (ari BinOp.shl IntKind.u8 (1 : Int) t))) = (128 : Nat) ∧ True) ∧ (Array.size (sayT os h (ofK os ts h) (ofT os ts h) (ari BinOp.andNot IntKind.u8 (ofH os ts h) (ari BinOp.shl IntKind.u8 (1 : Int) t))) = (128 : Nat) ∧ True) ∧ o = sayT os h (ofK os ts h) (ofT os ts h) (ari BinOp.andNot IntKind.u8 (ofH os ts h) (ari BinOp.shl IntKind.u8 (1 : Int) t)) ∧ n = oc8 (ari BinOp.andNot IntKind.u8 (ofH os ts h) (ari BinOp.shl IntKind.u8 (1 : Int) t)) ∧ e = (0 : Int) ∧ True))))) := by kernel_rfl
end Go.Proofs.YtldoopjnjlpbpaaDoor
