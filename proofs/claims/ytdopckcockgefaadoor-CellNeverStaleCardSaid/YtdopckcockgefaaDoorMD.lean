/- Of cells: Ref, Deref: runs. -/
import Derived.Test.YtdopckcockgefaaDoorMC
import Derived.Test.YtdopckcockgefaaDoorE1
import Derived.Test.YtdopckcockgefaaDoorK15
import Derived.Test.YtdopckcockgefaaDoorF1
set_option linter.unusedVariables false
set_option linter.unusedSimpArgs false
namespace Go.Proofs.YtdopckcockgefaaDoor
set_option maxRecDepth 100000
theorem rf0 (ts : Array Value) (r c to : Int) (firm : Bool) (o : Array Value) (e : Int) : (run ECe 1000 0 [callFr 7 Tryd.f7.ntmps [tbS ts, u32 r, i64 (.o c), u32 to, sB (.o firm)] (Tryd.f7.body.getD .skip)] e0M).vc (retOk 0 [] (rgS o e) e0M) (fun _ _ => False) =
    (((64 : Nat) ≤ Array.size ts ∧ True) ∧ (BkOk (Array.extract ts (0 : Nat) (64 : Nat)) ∧ ((0 : Int) ≤ r ∧ r < (4294967296 : Int)) ∧ True) ∧ ((goodB (Array.extract ts (0 : Nat) (64 : Nat)) r == true) = true → (((to == (0 : Int)) == false) = true → ((64 : Nat) ≤ Array.size ts ∧ True) ∧ (BkOk (Array.extract ts (0 : Nat) (64 : Nat)) ∧ ((0 : Int) ≤ to ∧ to < (4294967296 : Int)) ∧ True) ∧ ((!goodB (Array.extract ts (0 : Nat) (64 : Nat)) to) = true → (Array.size ts = (448 : Nat) ∧ True) ∧ (Array.size ts = (448 : Nat) ∧ Array.size ts = (448 : Nat) ∧ True) ∧ (Array.size ts = (448 : Nat) ∧ True) ∧ o = ts ∧ e = (4 : Int) ∧ True) ∧ ((!goodB (Array.extract ts (0 : Nat) (64 : Nat)) to) = false → ((decide (c ≥ (0 : Int)) == true) = true → ((!decide (c < (8 : Int))) = true → (Array.size ts = (448 : Nat) ∧ True) ∧ (Array.size ts = (448 : Nat) ∧ Array.size ts = (448 : Nat) ∧ True) ∧ (Array.size ts = (448 : Nat) ∧ True) ∧ o = ts ∧ e = (2 : Int) ∧ True) ∧ ((!decide (c < (8 : Int))) = false → (((to == (0 : Int)) == false) = true → ((firm == false) = true → (Array.size ts = (448 : Nat) ∧ True) ∧ (FIn ts ∧ ((0 : Int) ≤ r ∧ r < (4294967296 : Int)) ∧ True) ∧ ((!outF ts to r) = true → (Array.size ts = (448 : Nat) ∧ True) ∧ (Array.size ts = (448 : Nat) ∧ Array.size ts = (448 : Nat) ∧ True) ∧ (Array.size ts = (448 : Nat) ∧ True) ∧ o = ts ∧ e = (5 : Int) ∧ True) ∧ ((!outF ts to r) = false → (Array.size ts = (448 : Nat) ∧ True) ∧ (TbOk ts ∧ ((0 : Int) ≤ r ∧ r < (4294967296 : Int)) ∧ True) ∧ (Array.size (getA ts r) = (12 : Nat) ∧ Array.size (getA ts r) = (12 : Nat) ∧ True) ∧ (((0 : Int) ≤ c ∧ c < (8 : Int)) ∧ True) ∧ ((4 : Nat) + Int.toNat c * 1 < Array.size (getA ts r) ∧ True) ∧ (Array.size ts = (448 : Nat) ∧ True) ∧ (IsInt IntKind.u32 (Array.setIfInBounds (getA ts r) ((4 : Nat) + Int.toNat c * 1) (Value.int IntKind.u32 to)) (0 : Nat) ∧ IsInt IntKind.i64 (Array.setIfInBounds (getA ts r) ((4 : Nat) + Int.toNat c * 1) (Value.int IntKind.u32 to)) (1 : Nat) ∧ (Array.setIfInBounds (getA ts r) ((4 : Nat) + Int.toNat c * 1) (Value.int IntKind.u32 to))[(2 : Nat)]? = some (Value.slice none (0 : Nat) (0 : Nat)) ∧ IsInt IntKind.i64 (Array.setIfInBounds (getA ts r) ((4 : Nat) + Int.toNat c * 1) (Value.int IntKind.u32 to)) (3 : Nat) ∧ IsInt IntKind.u32 (Array.setIfInBounds (getA ts r) ((4 : Nat) + Int.toNat c * 1) (Value.int IntKind.u32 to)) (4 : Nat) ∧ IsInt IntKind.u32 (Array.setIfInBounds (getA ts r) ((4 : Nat) + Int.toNat c * 1) (Value.int IntKind.u32 to)) (5 : Nat) ∧ IsInt IntKind.u32 (Array.setIfInBounds (getA ts r) ((4 : Nat) + Int.toNat c * 1) (Value.int IntKind.u32 to)) (6 : Nat) ∧ IsInt IntKind.u32 (Array.setIfInBounds (getA ts r) ((4 : Nat) + Int.toNat c * 1) (Value.int IntKind.u32 to)) (7 : Nat) ∧ IsInt IntKind.u32 (Array.setIfInBounds (getA ts r) ((4 : Nat) + Int.toNat c * 1) (Value.int IntKind.u32 to)) (8 : Nat) ∧ IsInt IntKind.u32 (Array.setIfInBounds (getA ts r) ((4 : Nat) + Int.toNat c * 1) (Value.int IntKind.u32 to)) (9 : Nat) ∧ IsInt IntKind.u32 (Array.setIfInBounds (getA ts r) ((4 : Nat) + Int.toNat c * 1) (Value.int IntKind.u32 to)) (10 : Nat) ∧ IsInt IntKind.u32 (Array.setIfInBounds (getA ts r) ((4 : Nat) + Int.toNat c * 1) (Value.int IntKind.u32 to)) (11 : Nat) ∧ True) ∧ (TbOk ts ∧ ((0 : Int) ≤ r ∧ r < (4294967296 : Int)) ∧ RgOk (lsA (intAt (Array.setIfInBounds (getA ts r) ((4 : Nat) + Int.toNat c * 1) (Value.int IntKind.u32 to)) (0 : Nat)) (intAt (Array.setIfInBounds (getA ts r) ((4 : Nat) + Int.toNat c * 1) (Value.int IntKind.u32 to)) (1 : Nat)) (intAt (Array.setIfInBounds (getA ts r) ((4 : Nat) + Int.toNat c * 1) (Value.int IntKind.u32 to)) (3 : Nat)) (intAt (Array.setIfInBounds (getA ts r) ((4 : Nat) + Int.toNat c * 1) (Value.int IntKind.u32 to)) (4 : Nat)) (intAt (Array.setIfInBounds (getA ts r) ((4 : Nat) + Int.toNat c * 1) (Value.int IntKind.u32 to)) (5 : Nat)) (intAt (Array.setIfInBounds (getA ts r) ((4 : Nat) + Int.toNat c * 1) (Value.int IntKind.u32 to)) (6 : Nat)) (intAt (Array.setIfInBounds (getA ts r) ((4 : Nat) + Int.toNat c * 1) (Value.int IntKind.u32 to)) (7 : Nat)) (intAt (Array.setIfInBounds (getA ts r) ((4 : Nat) + Int.toNat c * 1) (Value.int IntKind.u32 to)) (8 : Nat)) (intAt (Array.setIfInBounds (getA ts r) ((4 : Nat) + Int.toNat c * 1) (Value.int IntKind.u32 to)) (9 : Nat)) (intAt (Array.setIfInBounds (getA ts r) ((4 : Nat) + Int.toNat c * 1) (Value.int IntKind.u32 to)) (10 : Nat)) (intAt (Array.setIfInBounds (getA ts r) ((4 : Nat) + Int.toNat c * 1) (Value.int IntKind.u32 to)) (11 : Nat))) (0 : Nat) ∧ True) ∧ (Array.size (setT ts r (lsA (intAt (Array.setIfInBounds (getA ts r) ((4 : Nat) + Int.toNat c * 1) (Value.int IntKind.u32 to)) (0 : Nat)) (intAt (Array.setIfInBounds (getA ts r) ((4 : Nat) + Int.toNat c * 1) (Value.int IntKind.u32 to)) (1 : Nat)) (intAt (Array.setIfInBounds (getA ts r) ((4 : Nat) + Int.toNat c * 1) (Value.int IntKind.u32 to)) (3 : Nat)) (intAt (Array.setIfInBounds (getA ts r) ((4 : Nat) + Int.toNat c * 1) (Value.int IntKind.u32 to)) (4 : Nat)) (intAt (Array.setIfInBounds (getA ts r) ((4 : Nat) + Int.toNat c * 1) (Value.int IntKind.u32 to)) (5 : Nat)) (intAt (Array.setIfInBounds (getA ts r) ((4 : Nat) + Int.toNat c * 1) (Value.int IntKind.u32 to)) (6 : Nat)) (intAt (Array.setIfInBounds (getA ts r) ((4 : Nat) + Int.toNat c * 1) (Value.int IntKind.u32 to)) (7 : Nat)) (intAt (Array.setIfInBounds (getA ts r) ((4 : Nat) + Int.toNat c * 1) (Value.int IntKind.u32 to)) (8 : Nat)) (intAt (Array.setIfInBounds (getA ts r) ((4 : Nat) + Int.toNat c * 1) (Value.int IntKind.u32 to)) (9 : Nat)) (intAt (Array.setIfInBounds (getA ts r) ((4 : Nat) + Int.toNat c * 1) (Value.int IntKind.u32 to)) (10 : Nat)) (intAt (Array.setIfInBounds (getA ts r) ((4 : Nat) + Int.toNat c * 1) (Value.int IntKind.u32 to)) (11 : Nat)))) = (448 : Nat) ∧ Array.size (setT ts r (lsA (intAt (Array.setIfInBounds (getA ts r) ((4 : Nat) + Int.toNat c * 1) (Value.int IntKind.u32 to)) (0 : Nat)) (intAt (Array.setIfInBounds (getA ts r) ((4 : Nat) + Int.toNat c * 1) (Value.int IntKind.u32 to)) (1 : Nat)) (intAt (Array.setIfInBounds (getA ts r) ((4 : Nat) + Int.toNat c * 1) (Value.int IntKind.u32 to)) (3 : Nat)) (intAt (Array.setIfInBounds (getA ts r) ((4 : Nat) + Int.toNat c * 1) (Value.int IntKind.u32 to)) (4 : Nat)) (intAt (Array.setIfInBounds (getA ts r) ((4 : Nat) + Int.toNat c * 1) (Value.int IntKind.u32 to)) (5 : Nat)) (intAt (Array.setIfInBounds (getA ts r) ((4 : Nat) + Int.toNat c * 1) (Value.int IntKind.u32 to)) (6 : Nat)) (intAt (Array.setIfInBounds (getA ts r) ((4 : Nat) + Int.toNat c * 1) (Value.int IntKind.u32 to)) (7 : Nat)) (intAt (Array.setIfInBounds (getA ts r) ((4 : Nat) + Int.toNat c * 1) (Value.int IntKind.u32 to)) (8 : Nat)) (intAt (Array.setIfInBounds (getA ts r) ((4 : Nat) + Int.toNat c * 1) (Value.int IntKind.u32 to)) (9 : Nat)) (intAt (Array.setIfInBounds (getA ts r) ((4 : Nat) + Int.toNat c * 1) (Value.int IntKind.u32 to)) (10 : Nat)) (intAt (Array.setIfInBounds (getA ts r) ((4 : Nat) + Int.toNat c * 1) (Value.int IntKind.u32 to)) (11 : Nat)))) = (448 : Nat) ∧ True) ∧ (Array.size (setT ts r (lsA (intAt (Array.setIfInBounds (getA ts r) ((4 : Nat) + Int.toNat c * 1) (Value.int IntKind.u32 to)) (0 : Nat)) (intAt (Array.setIfInBounds (getA ts r) ((4 : Nat) + Int.toNat c * 1) (Value.int IntKind.u32 to)) (1 : Nat)) (intAt (Array.setIfInBounds (getA ts r) ((4 : Nat) + Int.toNat c * 1) (Value.int IntKind.u32 to)) (3 : Nat)) (intAt (Array.setIfInBounds (getA ts r) ((4 : Nat) + Int.toNat c * 1) (Value.int IntKind.u32 to)) (4 : Nat)) (intAt (Array.setIfInBounds (getA ts r) ((4 : Nat) + Int.toNat c * 1) (Value.int IntKind.u32 to)) (5 : Nat)) (intAt (Array.setIfInBounds (getA ts r) ((4 : Nat) + Int.toNat c * 1) (Value.int IntKind.u32 to)) (6 : Nat)) (intAt (Array.setIfInBounds (getA ts r) ((4 : Nat) + Int.toNat c * 1) (Value.int IntKind.u32 to)) (7 : Nat)) (intAt (Array.setIfInBounds (getA ts r) ((4 : Nat) + Int.toNat c * 1) (Value.int IntKind.u32 to)) (8 : Nat)) (intAt (Array.setIfInBounds (getA ts r) ((4 : Nat) + Int.toNat c * 1) (Value.int IntKind.u32 to)) (9 : Nat)) (intAt (Array.setIfInBounds (getA ts r) ((4 : Nat) + Int.toNat c * 1) (Value.int IntKind.u32 to)) (10 : Nat)) (intAt (Array.setIfInBounds (getA ts r) ((4 : Nat) + Int.toNat c * 1) (Value.int IntKind.u32 to)) (11 : Nat)))) = (448 : Nat) ∧ True) ∧ o = setT ts r (lsA (intAt (Array.setIfInBounds (getA ts r) ((4 : Nat) + Int.toNat c * 1) (Value.int IntKind.u32 to)) (0 : Nat)) (intAt (Array.setIfInBounds (getA ts r) ((4 : Nat) + Int.toNat c * 1) (Value.int IntKind.u32 to)) (1 : Nat)) (intAt (Array.setIfInBounds (getA ts r) ((4 : Nat) + Int.toNat c * 1) (Value.int IntKind.u32 to)) (3 : Nat)) (intAt (Array.setIfInBounds (getA ts r) ((4 : Nat) + Int.toNat c * 1) (Value.int IntKind.u32 to)) (4 : Nat)) (intAt (Array.setIfInBounds (getA ts r) ((4 : Nat) + Int.toNat c * 1) (Value.int IntKind.u32 to)) (5 : Nat)) (intAt (Array.setIfInBounds (getA ts r) ((4 : Nat) + Int.toNat c * 1) (Value.int IntKind.u32 to)) (6 : Nat)) (intAt (Array.setIfInBounds (getA ts r) ((4 : Nat) + Int.toNat c * 1) (Value.int IntKind.u32 to)) (7 : Nat)) (intAt (Array.setIfInBounds (getA ts r) ((4 : Nat) + Int.toNat c * 1) (Value.int IntKind.u32 to)) (8 : Nat)) (intAt (Array.setIfInBounds (getA ts r) ((4 : Nat) + Int.toNat c * 1) (Value.int IntKind.u32 to)) (9 : Nat)) (intAt (Array.setIfInBounds (getA ts r) ((4 : Nat) + Int.toNat c * 1) (Value.int IntKind.u32 to)) (10 : Nat)) (intAt (Array.setIfInBounds (getA ts r) ((4 : Nat) + Int.toNat c * 1) (Value.int IntKind.u32 to)) (11 : Nat))) ∧ e = getX5 ts r ∧ True)) ∧ ((firm == false) = false → (Array.size ts = (448 : Nat) ∧ True) ∧ (TbOk ts ∧ ((0 : Int) ≤ r ∧ r < (4294967296 : Int)) ∧ True) ∧ (Array.size (getA ts r) = (12 : Nat) ∧ Array.size (getA ts r) = (12 : Nat) ∧ True) ∧ (((0 : Int) ≤ c ∧ c < (8 : Int)) ∧ True) ∧ ((4 : Nat) + Int.toNat c * 1 < Array.size (getA ts r) ∧ True) ∧ (Array.size ts = (448 : Nat) ∧ True) ∧ (IsInt IntKind.u32 (Array.setIfInBounds (getA ts r) ((4 : Nat) + Int.toNat c * 1) (Value.int IntKind.u32 to)) (0 : Nat) ∧ IsInt IntKind.i64 (Array.setIfInBounds (getA ts r) ((4 : Nat) + Int.toNat c * 1) (Value.int IntKind.u32 to)) (1 : Nat) ∧ (Array.setIfInBounds (getA ts r) ((4 : Nat) + Int.toNat c * 1) (Value.int IntKind.u32 to))[(2 : Nat)]? = some (Value.slice none (0 : Nat) (0 : Nat)) ∧ IsInt IntKind.i64 (Array.setIfInBounds (getA ts r) ((4 : Nat) + Int.toNat c * 1) (Value.int IntKind.u32 to)) (3 : Nat) ∧ IsInt IntKind.u32 (Array.setIfInBounds (getA ts r) ((4 : Nat) + Int.toNat c * 1) (Value.int IntKind.u32 to)) (4 : Nat) ∧ IsInt IntKind.u32 (Array.setIfInBounds (getA ts r) ((4 : Nat) + Int.toNat c * 1) (Value.int IntKind.u32 to)) (5 : Nat) ∧ IsInt IntKind.u32 (Array.setIfInBounds (getA ts r) ((4 : Nat) + Int.toNat c * 1) (Value.int IntKind.u32 to)) (6 : Nat) ∧ IsInt IntKind.u32 (Array.setIfInBounds (getA ts r) ((4 : Nat) + Int.toNat c * 1) (Value.int IntKind.u32 to)) (7 : Nat) ∧ IsInt IntKind.u32 (Array.setIfInBounds (getA ts r) ((4 : Nat) + Int.toNat c * 1) (Value.int IntKind.u32 to)) (8 : Nat) ∧ IsInt IntKind.u32 (Array.setIfInBounds (getA ts r) ((4 : Nat) + Int.toNat c * 1) (Value.int IntKind.u32 to)) (9 : Nat) ∧ IsInt IntKind.u32 (Array.setIfInBounds (getA ts r) ((4 : Nat) + Int.toNat c * 1) (Value.int IntKind.u32 to)) (10 : Nat) ∧ IsInt IntKind.u32 (Array.setIfInBounds (getA ts r) ((4 : Nat) + Int.toNat c * 1) (Value.int IntKind.u32 to)) (11 : Nat) ∧ True) ∧ (TbOk ts ∧ ((0 : Int) ≤ r ∧ r < (4294967296 : Int)) ∧ RgOk (lsA (intAt (Array.setIfInBounds (getA ts r) ((4 : Nat) + Int.toNat c * 1) (Value.int IntKind.u32 to)) (0 : Nat)) (intAt (Array.setIfInBounds (getA ts r) ((4 : Nat) + Int.toNat c * 1) (Value.int IntKind.u32 to)) (1 : Nat)) (intAt (Array.setIfInBounds (getA ts r) ((4 : Nat) + Int.toNat c * 1) (Value.int IntKind.u32 to)) (3 : Nat)) (intAt (Array.setIfInBounds (getA ts r) ((4 : Nat) + Int.toNat c * 1) (Value.int IntKind.u32 to)) (4 : Nat)) (intAt (Array.setIfInBounds (getA ts r) ((4 : Nat) + Int.toNat c * 1) (Value.int IntKind.u32 to)) (5 : Nat)) (intAt (Array.setIfInBounds (getA ts r) ((4 : Nat) + Int.toNat c * 1) (Value.int IntKind.u32 to)) (6 : Nat)) (intAt (Array.setIfInBounds (getA ts r) ((4 : Nat) + Int.toNat c * 1) (Value.int IntKind.u32 to)) (7 : Nat)) (intAt (Array.setIfInBounds (getA ts r) ((4 : Nat) + Int.toNat c * 1) (Value.int IntKind.u32 to)) (8 : Nat)) (intAt (Array.setIfInBounds (getA ts r) ((4 : Nat) + Int.toNat c * 1) (Value.int IntKind.u32 to)) (9 : Nat)) (intAt (Array.setIfInBounds (getA ts r) ((4 : Nat) + Int.toNat c * 1) (Value.int IntKind.u32 to)) (10 : Nat)) (intAt (Array.setIfInBounds (getA ts r) ((4 : Nat) + Int.toNat c * 1) (Value.int IntKind.u32 to)) (11 : Nat))) (0 : Nat) ∧ True) ∧ (Array.size (setT ts r (lsA (intAt (Array.setIfInBounds (getA ts r) ((4 : Nat) + Int.toNat c * 1) (Value.int IntKind.u32 to)) (0 : Nat)) (intAt (Array.setIfInBounds (getA ts r) ((4 : Nat) + Int.toNat c * 1) (Value.int IntKind.u32 to)) (1 : Nat)) (intAt (Array.setIfInBounds (getA ts r) ((4 : Nat) + Int.toNat c * 1) (Value.int IntKind.u32 to)) (3 : Nat)) (intAt (Array.setIfInBounds (getA ts r) ((4 : Nat) + Int.toNat c * 1) (Value.int IntKind.u32 to)) (4 : Nat)) (intAt (Array.setIfInBounds (getA ts r) ((4 : Nat) + Int.toNat c * 1) (Value.int IntKind.u32 to)) (5 : Nat)) (intAt (Array.setIfInBounds (getA ts r) ((4 : Nat) + Int.toNat c * 1) (Value.int IntKind.u32 to)) (6 : Nat)) (intAt (Array.setIfInBounds (getA ts r) ((4 : Nat) + Int.toNat c * 1) (Value.int IntKind.u32 to)) (7 : Nat)) (intAt (Array.setIfInBounds (getA ts r) ((4 : Nat) + Int.toNat c * 1) (Value.int IntKind.u32 to)) (8 : Nat)) (intAt (Array.setIfInBounds (getA ts r) ((4 : Nat) + Int.toNat c * 1) (Value.int IntKind.u32 to)) (9 : Nat)) (intAt (Array.setIfInBounds (getA ts r) ((4 : Nat) + Int.toNat c * 1) (Value.int IntKind.u32 to)) (10 : Nat)) (intAt (Array.setIfInBounds (getA ts r) ((4 : Nat) + Int.toNat c * 1) (Value.int IntKind.u32 to)) (11 : Nat)))) = (448 : Nat) ∧ Array.size (setT ts r (lsA (intAt (Array.setIfInBounds (getA ts r) ((4 : Nat) + Int.toNat c * 1) (Value.int IntKind.u32 to)) (0 : Nat)) (intAt (Array.setIfInBounds (getA ts r) ((4 : Nat) + Int.toNat c * 1) (Value.int IntKind.u32 to)) (1 : Nat)) (intAt (Array.setIfInBounds (getA ts r) ((4 : Nat) + Int.toNat c * 1) (Value.int IntKind.u32 to)) (3 : Nat)) (intAt (Array.setIfInBounds (getA ts r) ((4 : Nat) + Int.toNat c * 1) (Value.int IntKind.u32 to)) (4 : Nat)) (intAt (Array.setIfInBounds (getA ts r) ((4 : Nat) + Int.toNat c * 1) (Value.int IntKind.u32 to)) (5 : Nat)) (intAt (Array.setIfInBounds (getA ts r) ((4 : Nat) + Int.toNat c * 1) (Value.int IntKind.u32 to)) (6 : Nat)) (intAt (Array.setIfInBounds (getA ts r) ((4 : Nat) + Int.toNat c * 1) (Value.int IntKind.u32 to)) (7 : Nat)) (intAt (Array.setIfInBounds (getA ts r) ((4 : Nat) + Int.toNat c * 1) (Value.int IntKind.u32 to)) (8 : Nat)) (intAt (Array.setIfInBounds (getA ts r) ((4 : Nat) + Int.toNat c * 1) (Value.int IntKind.u32 to)) (9 : Nat)) (intAt (Array.setIfInBounds (getA ts r) ((4 : Nat) + Int.toNat c * 1) (Value.int IntKind.u32 to)) (10 : Nat)) (intAt (Array.setIfInBounds (getA ts r) ((4 : Nat) + Int.toNat c * 1) (Value.int IntKind.u32 to)) (11 : Nat)))) = (448 : Nat) ∧ True) ∧ (Array.size (setT ts r (lsA (intAt (Array.setIfInBounds (getA ts r) ((4 : Nat) + Int.toNat c * 1) (Value.int IntKind.u32 to)) (0 : Nat)) (intAt (Array.setIfInBounds (getA ts r) ((4 : Nat) + Int.toNat c * 1) (Value.int IntKind.u32 to)) (1 : Nat)) (intAt (Array.setIfInBounds (getA ts r) ((4 : Nat) + Int.toNat c * 1) (Value.int IntKind.u32 to)) (3 : Nat)) (intAt (Array.setIfInBounds (getA ts r) ((4 : Nat) + Int.toNat c * 1) (Value.int IntKind.u32 to)) (4 : Nat)) (intAt (Array.setIfInBounds (getA ts r) ((4 : Nat) + Int.toNat c * 1) (Value.int IntKind.u32 to)) (5 : Nat)) (intAt (Array.setIfInBounds (getA ts r) ((4 : Nat) + Int.toNat c * 1) (Value.int IntKind.u32 to)) (6 : Nat)) (intAt (Array.setIfInBounds (getA ts r) ((4 : Nat) + Int.toNat c * 1) (Value.int IntKind.u32 to)) (7 : Nat)) (intAt (Array.setIfInBounds (getA ts r) ((4 : Nat) + Int.toNat c * 1) (Value.int IntKind.u32 to)) (8 : Nat)) (intAt (Array.setIfInBounds (getA ts r) ((4 : Nat) + Int.toNat c * 1) (Value.int IntKind.u32 to)) (9 : Nat)) (intAt (Array.setIfInBounds (getA ts r) ((4 : Nat) + Int.toNat c * 1) (Value.int IntKind.u32 to)) (10 : Nat)) (intAt (Array.setIfInBounds (getA ts r) ((4 : Nat) + Int.toNat c * 1) (Value.int IntKind.u32 to)) (11 : Nat)))) = (448 : Nat) ∧ True) ∧ o = setT ts r (lsA (intAt (Array.setIfInBounds (getA ts r) ((4 : Nat) + Int.toNat c * 1) (Value.int IntKind.u32 to)) (0 : Nat)) (intAt (Array.setIfInBounds (getA ts r) ((4 : Nat) + Int.toNat c * 1) (Value.int IntKind.u32 to)) (1 : Nat)) (intAt (Array.setIfInBounds (getA ts r) ((4 : Nat) + Int.toNat c * 1) (Value.int IntKind.u32 to)) (3 : Nat)) (intAt (Array.setIfInBounds (getA ts r) ((4 : Nat) + Int.toNat c * 1) (Value.int IntKind.u32 to)) (4 : Nat)) (intAt (Array.setIfInBounds (getA ts r) ((4 : Nat) + Int.toNat c * 1) (Value.int IntKind.u32 to)) (5 : Nat)) (intAt (Array.setIfInBounds (getA ts r) ((4 : Nat) + Int.toNat c * 1) (Value.int IntKind.u32 to)) (6 : Nat)) (intAt (Array.setIfInBounds (getA ts r) ((4 : Nat) + Int.toNat c * 1) (Value.int IntKind.u32 to)) (7 : Nat)) (intAt (Array.setIfInBounds (getA ts r) ((4 : Nat) + Int.toNat c * 1) (Value.int IntKind.u32 to)) (8 : Nat)) (intAt (Array.setIfInBounds (getA ts r) ((4 : Nat) + Int.toNat c * 1) (Value.int IntKind.u32 to)) (9 : Nat)) (intAt (Array.setIfInBounds (getA ts r) ((4 : Nat) + Int.toNat c * 1) (Value.int IntKind.u32 to)) (10 : Nat)) (intAt (Array.setIfInBounds (getA ts r) ((4 : Nat) + Int.toNat c * 1) (Value.int IntKind.u32 to)) (11 : Nat))) ∧ e = getX5 ts r ∧ True)) ∧ (((to == (0 : Int)) == false) = false → (Array.size ts = (448 : Nat) ∧ True) ∧ (TbOk ts ∧ ((0 : Int) ≤ r ∧ r < (4294967296 : Int)) ∧ True) ∧ (Array.size (getA ts r) = (12 : Nat) ∧ Array.size (getA ts r) = (12 : Nat) ∧ True) ∧ (((0 : Int) ≤ c ∧ c < (8 : Int)) ∧ True) ∧ ((4 : Nat) + Int.toNat c * 1 < Array.size (getA ts r) ∧ True) ∧ (Array.size ts = (448 : Nat) ∧ True) ∧ (IsInt IntKind.u32 (Array.setIfInBounds (getA ts r) ((4 : Nat) + Int.toNat c * 1) (Value.int IntKind.u32 to)) (0 : Nat) ∧ IsInt IntKind.i64 (Array.setIfInBounds (getA ts r) ((4 : Nat) + Int.toNat c * 1) (Value.int IntKind.u32 to)) (1 : Nat) ∧ (Array.setIfInBounds (getA ts r) ((4 : Nat) + Int.toNat c * 1) (Value.int IntKind.u32 to))[(2 : Nat)]? = some (Value.slice none (0 : Nat) (0 : Nat)) ∧ IsInt IntKind.i64 (Array.setIfInBounds (getA ts r) ((4 : Nat) + Int.toNat c * 1) (Value.int IntKind.u32 to)) (3 : Nat) ∧ IsInt IntKind.u32 (Array.setIfInBounds (getA ts r) ((4 : Nat) + Int.toNat c * 1) (Value.int IntKind.u32 to)) (4 : Nat) ∧ IsInt IntKind.u32 (Array.setIfInBounds (getA ts r) ((4 : Nat) + Int.toNat c * 1) (Value.int IntKind.u32 to)) (5 : Nat) ∧ IsInt IntKind.u32 (Array.setIfInBounds (getA ts r) ((4 : Nat) + Int.toNat c * 1) (Value.int IntKind.u32 to)) (6 : Nat) ∧ IsInt IntKind.u32 (Array.setIfInBounds (getA ts r) ((4 : Nat) + Int.toNat c * 1) (Value.int IntKind.u32 to)) (7 : Nat) ∧ IsInt IntKind.u32 (Array.setIfInBounds (getA ts r) ((4 : Nat) + Int.toNat c * 1) (Value.int IntKind.u32 to)) (8 : Nat) ∧ IsInt IntKind.u32 (Array.setIfInBounds (getA ts r) ((4 : Nat) + Int.toNat c * 1) (Value.int IntKind.u32 to)) (9 : Nat) ∧ IsInt IntKind.u32 (Array.setIfInBounds (getA ts r) ((4 : Nat) + Int.toNat c * 1) (Value.int IntKind.u32 to)) (10 : Nat) ∧ IsInt IntKind.u32 (Array.setIfInBounds (getA ts r) ((4 : Nat) + Int.toNat c * 1) (Value.int IntKind.u32 to)) (11 : Nat) ∧ True) ∧ (TbOk ts ∧ ((0 : Int) ≤ r ∧ r < (4294967296 : Int)) ∧ RgOk (lsA (intAt (Array.setIfInBounds (getA ts r) ((4 : Nat) + Int.toNat c * 1) (Value.int IntKind.u32 to)) (0 : Nat)) (intAt (Array.setIfInBounds (getA ts r) ((4 : Nat) + Int.toNat c * 1) (Value.int IntKind.u32 to)) (1 : Nat)) (intAt (Array.setIfInBounds (getA ts r) ((4 : Nat) + Int.toNat c * 1) (Value.int IntKind.u32 to)) (3 : Nat)) (intAt (Array.setIfInBounds (getA ts r) ((4 : Nat) + Int.toNat c * 1) (Value.int IntKind.u32 to)) (4 : Nat)) (intAt (Array.setIfInBounds (getA ts r) ((4 : Nat) + Int.toNat c * 1) (Value.int IntKind.u32 to)) (5 : Nat)) (intAt (Array.setIfInBounds (getA ts r) ((4 : Nat) + Int.toNat c * 1) (Value.int IntKind.u32 to)) (6 : Nat)) (intAt (Array.setIfInBounds (getA ts r) ((4 : Nat) + Int.toNat c * 1) (Value.int IntKind.u32 to)) (7 : Nat)) (intAt (Array.setIfInBounds (getA ts r) ((4 : Nat) + Int.toNat c * 1) (Value.int IntKind.u32 to)) (8 : Nat)) (intAt (Array.setIfInBounds (getA ts r) ((4 : Nat) + Int.toNat c * 1) (Value.int IntKind.u32 to)) (9 : Nat)) (intAt (Array.setIfInBounds (getA ts r) ((4 : Nat) + Int.toNat c * 1) (Value.int IntKind.u32 to)) (10 : Nat)) (intAt (Array.setIfInBounds (getA ts r) ((4 : Nat) + Int.toNat c * 1) (Value.int IntKind.u32 to)) (11 : Nat))) (0 : Nat) ∧ True) ∧ (Array.size (setT ts r (lsA (intAt (Array.setIfInBounds (getA ts r) ((4 : Nat) + Int.toNat c * 1) (Value.int IntKind.u32 to)) (0 : Nat)) (intAt (Array.setIfInBounds (getA ts r) ((4 : Nat) + Int.toNat c * 1) (Value.int IntKind.u32 to)) (1 : Nat)) (intAt (Array.setIfInBounds (getA ts r) ((4 : Nat) + Int.toNat c * 1) (Value.int IntKind.u32 to)) (3 : Nat)) (intAt (Array.setIfInBounds (getA ts r) ((4 : Nat) + Int.toNat c * 1) (Value.int IntKind.u32 to)) (4 : Nat)) (intAt (Array.setIfInBounds (getA ts r) ((4 : Nat) + Int.toNat c * 1) (Value.int IntKind.u32 to)) (5 : Nat)) (intAt (Array.setIfInBounds (getA ts r) ((4 : Nat) + Int.toNat c * 1) (Value.int IntKind.u32 to)) (6 : Nat)) (intAt (Array.setIfInBounds (getA ts r) ((4 : Nat) + Int.toNat c * 1) (Value.int IntKind.u32 to)) (7 : Nat)) (intAt (Array.setIfInBounds (getA ts r) ((4 : Nat) + Int.toNat c * 1) (Value.int IntKind.u32 to)) (8 : Nat)) (intAt (Array.setIfInBounds (getA ts r) ((4 : Nat) + Int.toNat c * 1) (Value.int IntKind.u32 to)) (9 : Nat)) (intAt (Array.setIfInBounds (getA ts r) ((4 : Nat) + Int.toNat c * 1) (Value.int IntKind.u32 to)) (10 : Nat)) (intAt (Array.setIfInBounds (getA ts r) ((4 : Nat) + Int.toNat c * 1) (Value.int IntKind.u32 to)) (11 : Nat)))) = (448 : Nat) ∧ Array.size (setT ts r (lsA (intAt (Array.setIfInBounds (getA ts r) ((4 : Nat) + Int.toNat c * 1) (Value.int IntKind.u32 to)) (0 : Nat)) (intAt (Array.setIfInBounds (getA ts r) ((4 : Nat) + Int.toNat c * 1) (Value.int IntKind.u32 to)) (1 : Nat)) (intAt (Array.setIfInBounds (getA ts r) ((4 : Nat) + Int.toNat c * 1) (Value.int IntKind.u32 to)) (3 : Nat)) (intAt (Array.setIfInBounds (getA ts r) ((4 : Nat) + Int.toNat c * 1) (Value.int IntKind.u32 to)) (4 : Nat)) (intAt (Array.setIfInBounds (getA ts r) ((4 : Nat) + Int.toNat c * 1) (Value.int IntKind.u32 to)) (5 : Nat)) (intAt (Array.setIfInBounds (getA ts r) ((4 : Nat) + Int.toNat c * 1) (Value.int IntKind.u32 to)) (6 : Nat)) (intAt (Array.setIfInBounds (getA ts r) ((4 : Nat) + Int.toNat c * 1) (Value.int IntKind.u32 to)) (7 : Nat)) (intAt (Array.setIfInBounds (getA ts r) ((4 : Nat) + Int.toNat c * 1) (Value.int IntKind.u32 to)) (8 : Nat)) (intAt (Array.setIfInBounds (getA ts r) ((4 : Nat) + Int.toNat c * 1) (Value.int IntKind.u32 to)) (9 : Nat)) (intAt (Array.setIfInBounds (getA ts r) ((4 : Nat) + Int.toNat c * 1) (Value.int IntKind.u32 to)) (10 : Nat)) (intAt (Array.setIfInBounds (getA ts r) ((4 : Nat) + Int.toNat c * 1) (Value.int IntKind.u32 to)) (11 : Nat)))) = (448 : Nat) ∧ True) ∧ (Array.size (setT ts r (lsA (intAt (Array.setIfInBounds (getA ts r) ((4 : Nat) + Int.toNat c * 1) (Value.int IntKind.u32 to)) (0 : Nat)) (intAt (Array.setIfInBounds (getA ts r) ((4 : Nat) + Int.toNat c * 1) (Value.int IntKind.u32 to)) (1 : Nat)) (intAt (Array.setIfInBounds (getA ts r) ((4 : Nat) + Int.toNat c * 1) (Value.int IntKind.u32 to)) (3 : Nat)) (intAt (Array.setIfInBounds (getA ts r) ((4 : Nat) + Int.toNat c * 1) (Value.int IntKind.u32 to)) (4 : Nat)) (intAt (Array.setIfInBounds (getA ts r) ((4 : Nat) + Int.toNat c * 1) (Value.int IntKind.u32 to)) (5 : Nat)) (intAt (Array.setIfInBounds (getA ts r) ((4 : Nat) + Int.toNat c * 1) (Value.int IntKind.u32 to)) (6 : Nat)) (intAt (Array.setIfInBounds (getA ts r) ((4 : Nat) + Int.toNat c * 1) (Value.int IntKind.u32 to)) (7 : Nat)) (intAt (Array.setIfInBounds (getA ts r) ((4 : Nat) + Int.toNat c * 1) (Value.int IntKind.u32 to)) (8 : Nat)) (intAt (Array.setIfInBounds (getA ts r) ((4 : Nat) + Int.toNat c * 1) (Value.int IntKind.u32 to)) (9 : Nat)) (intAt (Array.setIfInBounds (getA ts r) ((4 : Nat) + Int.toNat c * 1) (Value.int IntKind.u32 to)) (10 : Nat)) (intAt (Array.setIfInBounds (getA ts r) ((4 : Nat) + Int.toNat c * 1) (Value.int IntKind.u32 to)) (11 : Nat)))) = (448 : Nat) ∧ True) ∧ o = setT ts r (lsA (intAt (Array.setIfInBounds (getA ts r) ((4 : Nat) + Int.toNat c * 1) (Value.int IntKind.u32 to)) (0 : Nat)) (intAt (Array.setIfInBounds (getA ts r) ((4 : Nat) + Int.toNat c * 1) (Value.int IntKind.u32 to)) (1 : Nat)) (intAt (Array.setIfInBounds (getA ts r) ((4 : Nat) + Int.toNat c * 1) (Value.int IntKind.u32 to)) (3 : Nat)) (intAt (Array.setIfInBounds (getA ts r) ((4 : Nat) + Int.toNat c * 1) (Value.int IntKind.u32 to)) (4 : Nat)) (intAt (Array.setIfInBounds (getA ts r) ((4 : Nat) + Int.toNat c * 1) (Value.int IntKind.u32 to)) (5 : Nat)) (intAt (Array.setIfInBounds (getA ts r) ((4 : Nat) + Int.toNat c * 1) (Value.int IntKind.u32 to)) (6 : Nat)) (intAt (Array.setIfInBounds (getA ts r) ((4 : Nat) + Int.toNat c * 1) (Value.int IntKind.u32 to)) (7 : Nat)) (intAt (Array.setIfInBounds (getA ts r) ((4 : Nat) + Int.toNat c * 1) (Value.int IntKind.u32 to)) (8 : Nat)) (intAt (Array.setIfInBounds (getA ts r) ((4 : Nat) + Int.toNat c * 1) (Value.int IntKind.u32 to)) (9 : Nat)) (intAt (Array.setIfInBounds (getA ts r) ((4 : Nat) + Int.toNat c * 1) (Value.int IntKind.u32 to)) (10 : Nat)) (intAt (Array.setIfInBounds (getA ts r) ((4 : Nat) + Int.toNat c * 1) (Value.int IntKind.u32 to)) (11 : Nat))) ∧ e = getX5 ts r ∧ True))) ∧ ((decide (c ≥ (0 : Int)) == true) = false → (Array.size ts = (448 : Nat) ∧ True) ∧ (Array.size ts = (448 : Nat) ∧ Array.size ts = (448 : Nat) ∧ True) ∧ (Array.size ts = (448 : Nat) ∧ True) ∧ o = ts ∧ e = (2 : Int) ∧ True))) ∧ (((to == (0 : Int)) == false) = false → ((decide (c ≥ (0 : Int)) == true) = true → ((!decide (c < (8 : Int))) = true → (Array.size ts = (448 : Nat) ∧ True) ∧ (Array.size ts = (448 : Nat) ∧ Array.size ts = (448 : Nat) ∧ True) ∧ (Array.size ts = (448 : Nat) ∧ True) ∧ o = ts ∧ e = (2 : Int) ∧ True) ∧ ((!decide (c < (8 : Int))) = false → (((to == (0 : Int)) == false) = true → ((firm == false) = true → (Array.size ts = (448 : Nat) ∧ True) ∧ (FIn ts ∧ ((0 : Int) ≤ r ∧ r < (4294967296 : Int)) ∧ True) ∧ ((!outF ts to r) = true → (Array.size ts = (448 : Nat) ∧ True) ∧ (Array.size ts = (448 : Nat) ∧ Array.size ts = (448 : Nat) ∧ True) ∧ (Array.size ts = (448 : Nat) ∧ True) ∧ o = ts ∧ e = (5 : Int) ∧ True) ∧ ((!outF ts to r) = false → (Array.size ts = (448 : Nat) ∧ True) ∧ (TbOk ts ∧ ((0 : Int) ≤ r ∧ r < (4294967296 : Int)) ∧ True) ∧ (Array.size (getA ts r) = (12 : Nat) ∧ Array.size (getA ts r) = (12 : Nat) ∧ True) ∧ (((0 : Int) ≤ c ∧ c < (8 : Int)) ∧ True) ∧ ((4 : Nat) + Int.toNat c * 1 < Array.size (getA ts r) ∧ True) ∧ (Array.size ts = (448 : Nat) ∧ True) ∧ (IsInt IntKind.u32 (Array.setIfInBounds (getA ts r) ((4 : Nat) + Int.toNat c * 1) (Value.int IntKind.u32 to)) (0 : Nat) ∧ IsInt IntKind.i64 (Array.setIfInBounds (getA ts r) ((4 : Nat) + Int.toNat c * 1) (Value.int IntKind.u32 to)) (1 : Nat) ∧ (Array.setIfInBounds (getA ts r) ((4 : Nat) + Int.toNat c * 1) (Value.int IntKind.u32 to))[(2 : Nat)]? = some (Value.slice none (0 : Nat) (0 : Nat)) ∧ IsInt IntKind.i64 (Array.setIfInBounds (getA ts r) ((4 : Nat) + Int.toNat c * 1) (Value.int IntKind.u32 to)) (3 : Nat) ∧ IsInt IntKind.u32 (Array.setIfInBounds (getA ts r) ((4 : Nat) + Int.toNat c * 1) (Value.int IntKind.u32 to)) (4 : Nat) ∧ IsInt IntKind.u32 (Array.setIfInBounds (getA ts r) ((4 : Nat) + Int.toNat c * 1) (Value.int IntKind.u32 to)) (5 : Nat) ∧ IsInt IntKind.u32 (Array.setIfInBounds (getA ts r) ((4 : Nat) + Int.toNat c * 1) (Value.int IntKind.u32 to)) (6 : Nat) ∧ IsInt IntKind.u32 (Array.setIfInBounds (getA ts r) ((4 : Nat) + Int.toNat c * 1) (Value.int IntKind.u32 to)) (7 : Nat) ∧ IsInt IntKind.u32 (Array.setIfInBounds (getA ts r) ((4 : Nat) + Int.toNat c * 1) (Value.int IntKind.u32 to)) (8 : Nat) ∧ IsInt IntKind.u32 (Array.setIfInBounds (getA ts r) ((4 : Nat) + Int.toNat c * 1) (Value.int IntKind.u32 to)) (9 : Nat) ∧ IsInt IntKind.u32 (Array.setIfInBounds (getA ts r) ((4 : Nat) + Int.toNat c * 1) (Value.int IntKind.u32 to)) (10 : Nat) ∧ IsInt IntKind.u32 (Array.setIfInBounds (getA ts r) ((4 : Nat) + Int.toNat c * 1) (Value.int IntKind.u32 to)) (11 : Nat) ∧ True) ∧ (TbOk ts ∧ ((0 : Int) ≤ r ∧ r < (4294967296 : Int)) ∧ RgOk (lsA (intAt (Array.setIfInBounds (getA ts r) ((4 : Nat) + Int.toNat c * 1) (Value.int IntKind.u32 to)) (0 : Nat)) (intAt (Array.setIfInBounds (getA ts r) ((4 : Nat) + Int.toNat c * 1) (Value.int IntKind.u32 to)) (1 : Nat)) (intAt (Array.setIfInBounds (getA ts r) ((4 : Nat) + Int.toNat c * 1) (Value.int IntKind.u32 to)) (3 : Nat)) (intAt (Array.setIfInBounds (getA ts r) ((4 : Nat) + Int.toNat c * 1) (Value.int IntKind.u32 to)) (4 : Nat)) (intAt (Array.setIfInBounds (getA ts r) ((4 : Nat) + Int.toNat c * 1) (Value.int IntKind.u32 to)) (5 : Nat)) (intAt (Array.setIfInBounds (getA ts r) ((4 : Nat) + Int.toNat c * 1) (Value.int IntKind.u32 to)) (6 : Nat)) (intAt (Array.setIfInBounds (getA ts r) ((4 : Nat) + Int.toNat c * 1) (Value.int IntKind.u32 to)) (7 : Nat)) (intAt (Array.setIfInBounds (getA ts r) ((4 : Nat) + Int.toNat c * 1) (Value.int IntKind.u32 to)) (8 : Nat)) (intAt (Array.setIfInBounds (getA ts r) ((4 : Nat) + Int.toNat c * 1) (Value.int IntKind.u32 to)) (9 : Nat)) (intAt (Array.setIfInBounds (getA ts r) ((4 : Nat) + Int.toNat c * 1) (Value.int IntKind.u32 to)) (10 : Nat)) (intAt (Array.setIfInBounds (getA ts r) ((4 : Nat) + Int.toNat c * 1) (Value.int IntKind.u32 to)) (11 : Nat))) (0 : Nat) ∧ True) ∧ (Array.size (setT ts r (lsA (intAt (Array.setIfInBounds (getA ts r) ((4 : Nat) + Int.toNat c * 1) (Value.int IntKind.u32 to)) (0 : Nat)) (intAt (Array.setIfInBounds (getA ts r) ((4 : Nat) + Int.toNat c * 1) (Value.int IntKind.u32 to)) (1 : Nat)) (intAt (Array.setIfInBounds (getA ts r) ((4 : Nat) + Int.toNat c * 1) (Value.int IntKind.u32 to)) (3 : Nat)) (intAt (Array.setIfInBounds (getA ts r) ((4 : Nat) + Int.toNat c * 1) (Value.int IntKind.u32 to)) (4 : Nat)) (intAt (Array.setIfInBounds (getA ts r) ((4 : Nat) + Int.toNat c * 1) (Value.int IntKind.u32 to)) (5 : Nat)) (intAt (Array.setIfInBounds (getA ts r) ((4 : Nat) + Int.toNat c * 1) (Value.int IntKind.u32 to)) (6 : Nat)) (intAt (Array.setIfInBounds (getA ts r) ((4 : Nat) + Int.toNat c * 1) (Value.int IntKind.u32 to)) (7 : Nat)) (intAt (Array.setIfInBounds (getA ts r) ((4 : Nat) + Int.toNat c * 1) (Value.int IntKind.u32 to)) (8 : Nat)) (intAt (Array.setIfInBounds (getA ts r) ((4 : Nat) + Int.toNat c * 1) (Value.int IntKind.u32 to)) (9 : Nat)) (intAt (Array.setIfInBounds (getA ts r) ((4 : Nat) + Int.toNat c * 1) (Value.int IntKind.u32 to)) (10 : Nat)) (intAt (Array.setIfInBounds (getA ts r) ((4 : Nat) + Int.toNat c * 1) (Value.int IntKind.u32 to)) (11 : Nat)))) = (448 : Nat) ∧ Array.size (setT ts r (lsA (intAt (Array.setIfInBounds (getA ts r) ((4 : Nat) + Int.toNat c * 1) (Value.int IntKind.u32 to)) (0 : Nat)) (intAt (Array.setIfInBounds (getA ts r) ((4 : Nat) + Int.toNat c * 1) (Value.int IntKind.u32 to)) (1 : Nat)) (intAt (Array.setIfInBounds (getA ts r) ((4 : Nat) + Int.toNat c * 1) (Value.int IntKind.u32 to)) (3 : Nat)) (intAt (Array.setIfInBounds (getA ts r) ((4 : Nat) + Int.toNat c * 1) (Value.int IntKind.u32 to)) (4 : Nat)) (intAt (Array.setIfInBounds (getA ts r) ((4 : Nat) + Int.toNat c * 1) (Value.int IntKind.u32 to)) (5 : Nat)) (intAt (Array.setIfInBounds (getA ts r) ((4 : Nat) + Int.toNat c * 1) (Value.int IntKind.u32 to)) (6 : Nat)) (intAt (Array.setIfInBounds (getA ts r) ((4 : Nat) + Int.toNat c * 1) (Value.int IntKind.u32 to)) (7 : Nat)) (intAt (Array.setIfInBounds (getA ts r) ((4 : Nat) + Int.toNat c * 1) (Value.int IntKind.u32 to)) (8 : Nat)) (intAt (Array.setIfInBounds (getA ts r) ((4 : Nat) + Int.toNat c * 1) (Value.int IntKind.u32 to)) (9 : Nat)) (intAt (Array.setIfInBounds (getA ts r) ((4 : Nat) + Int.toNat c * 1) (Value.int IntKind.u32 to)) (10 : Nat)) (intAt (Array.setIfInBounds (getA ts r) ((4 : Nat) + Int.toNat c * 1) (Value.int IntKind.u32 to)) (11 : Nat)))) = (448 : Nat) ∧ True) ∧ (Array.size (setT ts r (lsA (intAt (Array.setIfInBounds (getA ts r) ((4 : Nat) + Int.toNat c * 1) (Value.int IntKind.u32 to)) (0 : Nat)) (intAt (Array.setIfInBounds (getA ts r) ((4 : Nat) + Int.toNat c * 1) (Value.int IntKind.u32 to)) (1 : Nat)) (intAt (Array.setIfInBounds (getA ts r) ((4 : Nat) + Int.toNat c * 1) (Value.int IntKind.u32 to)) (3 : Nat)) (intAt (Array.setIfInBounds (getA ts r) ((4 : Nat) + Int.toNat c * 1) (Value.int IntKind.u32 to)) (4 : Nat)) (intAt (Array.setIfInBounds (getA ts r) ((4 : Nat) + Int.toNat c * 1) (Value.int IntKind.u32 to)) (5 : Nat)) (intAt (Array.setIfInBounds (getA ts r) ((4 : Nat) + Int.toNat c * 1) (Value.int IntKind.u32 to)) (6 : Nat)) (intAt (Array.setIfInBounds (getA ts r) ((4 : Nat) + Int.toNat c * 1) (Value.int IntKind.u32 to)) (7 : Nat)) (intAt (Array.setIfInBounds (getA ts r) ((4 : Nat) + Int.toNat c * 1) (Value.int IntKind.u32 to)) (8 : Nat)) (intAt (Array.setIfInBounds (getA ts r) ((4 : Nat) + Int.toNat c * 1) (Value.int IntKind.u32 to)) (9 : Nat)) (intAt (Array.setIfInBounds (getA ts r) ((4 : Nat) + Int.toNat c * 1) (Value.int IntKind.u32 to)) (10 : Nat)) (intAt (Array.setIfInBounds (getA ts r) ((4 : Nat) + Int.toNat c * 1) (Value.int IntKind.u32 to)) (11 : Nat)))) = (448 : Nat) ∧ True) ∧ o = setT ts r (lsA (intAt (Array.setIfInBounds (getA ts r) ((4 : Nat) + Int.toNat c * 1) (Value.int IntKind.u32 to)) (0 : Nat)) (intAt (Array.setIfInBounds (getA ts r) ((4 : Nat) + Int.toNat c * 1) (Value.int IntKind.u32 to)) (1 : Nat)) (intAt (Array.setIfInBounds (getA ts r) ((4 : Nat) + Int.toNat c * 1) (Value.int IntKind.u32 to)) (3 : Nat)) (intAt (Array.setIfInBounds (getA ts r) ((4 : Nat) + Int.toNat c * 1) (Value.int IntKind.u32 to)) (4 : Nat)) (intAt (Array.setIfInBounds (getA ts r) ((4 : Nat) + Int.toNat c * 1) (Value.int IntKind.u32 to)) (5 : Nat)) (intAt (Array.setIfInBounds (getA ts r) ((4 : Nat) + Int.toNat c * 1) (Value.int IntKind.u32 to)) (6 : Nat)) (intAt (Array.setIfInBounds (getA ts r) ((4 : Nat) + Int.toNat c * 1) (Value.int IntKind.u32 to)) (7 : Nat)) (intAt (Array.setIfInBounds (getA ts r) ((4 : Nat) + Int.toNat c * 1) (Value.int IntKind.u32 to)) (8 : Nat)) (intAt (Array.setIfInBounds (getA ts r) ((4 : Nat) + Int.toNat c * 1) (Value.int IntKind.u32 to)) (9 : Nat)) (intAt (Array.setIfInBounds (getA ts r) ((4 : Nat) + Int.toNat c * 1) (Value.int IntKind.u32 to)) (10 : Nat)) (intAt (Array.setIfInBounds (getA ts r) ((4 : Nat) + Int.toNat c * 1) (Value.int IntKind.u32 to)) (11 : Nat))) ∧ e = getX5 ts r ∧ True)) ∧ ((firm == false) = false → (Array.size ts = (448 : Nat) ∧ True) ∧ (TbOk ts ∧ ((0 : Int) ≤ r ∧ r < (4294967296 : Int)) ∧ True) ∧ (Array.size (getA ts r) = (12 : Nat) ∧ Array.size (getA ts r) = (12 : Nat) ∧ True) ∧ (((0 : Int) ≤ c ∧ c < (8 : Int)) ∧ True) ∧ ((4 : Nat) + Int.toNat c * 1 < Array.size (getA ts r) ∧ True) ∧ (Array.size ts = (448 : Nat) ∧ True) ∧ (IsInt IntKind.u32 (Array.setIfInBounds (getA ts r) ((4 : Nat) + Int.toNat c * 1) (Value.int IntKind.u32 to)) (0 : Nat) ∧ IsInt IntKind.i64 (Array.setIfInBounds (getA ts r) ((4 : Nat) + Int.toNat c * 1) (Value.int IntKind.u32 to)) (1 : Nat) ∧ (Array.setIfInBounds (getA ts r) ((4 : Nat) + Int.toNat c * 1) (Value.int IntKind.u32 to))[(2 : Nat)]? = some (Value.slice none (0 : Nat) (0 : Nat)) ∧ IsInt IntKind.i64 (Array.setIfInBounds (getA ts r) ((4 : Nat) + Int.toNat c * 1) (Value.int IntKind.u32 to)) (3 : Nat) ∧ IsInt IntKind.u32 (Array.setIfInBounds (getA ts r) ((4 : Nat) + Int.toNat c * 1) (Value.int IntKind.u32 to)) (4 : Nat) ∧ IsInt IntKind.u32 (Array.setIfInBounds (getA ts r) ((4 : Nat) + Int.toNat c * 1) (Value.int IntKind.u32 to)) (5 : Nat) ∧ IsInt IntKind.u32 (Array.setIfInBounds (getA ts r) ((4 : Nat) + Int.toNat c * 1) (Value.int IntKind.u32 to)) (6 : Nat) ∧ IsInt IntKind.u32 (Array.setIfInBounds (getA ts r) ((4 : Nat) + Int.toNat c * 1) (Value.int IntKind.u32 to)) (7 : Nat) ∧ IsInt IntKind.u32 (Array.setIfInBounds (getA ts r) ((4 : Nat) + Int.toNat c * 1) (Value.int IntKind.u32 to)) (8 : Nat) ∧ IsInt IntKind.u32 (Array.setIfInBounds (getA ts r) ((4 : Nat) + Int.toNat c * 1) (Value.int IntKind.u32 to)) (9 : Nat) ∧ IsInt IntKind.u32 (Array.setIfInBounds (getA ts r) ((4 : Nat) + Int.toNat c * 1) (Value.int IntKind.u32 to)) (10 : Nat) ∧ IsInt IntKind.u32 (Array.setIfInBounds (getA ts r) ((4 : Nat) + Int.toNat c * 1) (Value.int IntKind.u32 to)) (11 : Nat) ∧ True) ∧ (TbOk ts ∧ ((0 : Int) ≤ r ∧ r < (4294967296 : Int)) ∧ RgOk (lsA (intAt (Array.setIfInBounds (getA ts r) ((4 : Nat) + Int.toNat c * 1) (Value.int IntKind.u32 to)) (0 : Nat)) (intAt (Array.setIfInBounds (getA ts r) ((4 : Nat) + Int.toNat c * 1) (Value.int IntKind.u32 to)) (1 : Nat)) (intAt (Array.setIfInBounds (getA ts r) ((4 : Nat) + Int.toNat c * 1) (Value.int IntKind.u32 to)) (3 : Nat)) (intAt (Array.setIfInBounds (getA ts r) ((4 : Nat) + Int.toNat c * 1) (Value.int IntKind.u32 to)) (4 : Nat)) (intAt (Array.setIfInBounds (getA ts r) ((4 : Nat) + Int.toNat c * 1) (Value.int IntKind.u32 to)) (5 : Nat)) (intAt (Array.setIfInBounds (getA ts r) ((4 : Nat) + Int.toNat c * 1) (Value.int IntKind.u32 to)) (6 : Nat)) (intAt (Array.setIfInBounds (getA ts r) ((4 : Nat) + Int.toNat c * 1) (Value.int IntKind.u32 to)) (7 : Nat)) (intAt (Array.setIfInBounds (getA ts r) ((4 : Nat) + Int.toNat c * 1) (Value.int IntKind.u32 to)) (8 : Nat)) (intAt (Array.setIfInBounds (getA ts r) ((4 : Nat) + Int.toNat c * 1) (Value.int IntKind.u32 to)) (9 : Nat)) (intAt (Array.setIfInBounds (getA ts r) ((4 : Nat) + Int.toNat c * 1) (Value.int IntKind.u32 to)) (10 : Nat)) (intAt (Array.setIfInBounds (getA ts r) ((4 : Nat) + Int.toNat c * 1) (Value.int IntKind.u32 to)) (11 : Nat))) (0 : Nat) ∧ True) ∧ (Array.size (setT ts r (lsA (intAt (Array.setIfInBounds (getA ts r) ((4 : Nat) + Int.toNat c * 1) (Value.int IntKind.u32 to)) (0 : Nat)) (intAt (Array.setIfInBounds (getA ts r) ((4 : Nat) + Int.toNat c * 1) (Value.int IntKind.u32 to)) (1 : Nat)) (intAt (Array.setIfInBounds (getA ts r) ((4 : Nat) + Int.toNat c * 1) (Value.int IntKind.u32 to)) (3 : Nat)) (intAt (Array.setIfInBounds (getA ts r) ((4 : Nat) + Int.toNat c * 1) (Value.int IntKind.u32 to)) (4 : Nat)) (intAt (Array.setIfInBounds (getA ts r) ((4 : Nat) + Int.toNat c * 1) (Value.int IntKind.u32 to)) (5 : Nat)) (intAt (Array.setIfInBounds (getA ts r) ((4 : Nat) + Int.toNat c * 1) (Value.int IntKind.u32 to)) (6 : Nat)) (intAt (Array.setIfInBounds (getA ts r) ((4 : Nat) + Int.toNat c * 1) (Value.int IntKind.u32 to)) (7 : Nat)) (intAt (Array.setIfInBounds (getA ts r) ((4 : Nat) + Int.toNat c * 1) (Value.int IntKind.u32 to)) (8 : Nat)) (intAt (Array.setIfInBounds (getA ts r) ((4 : Nat) + Int.toNat c * 1) (Value.int IntKind.u32 to)) (9 : Nat)) (intAt (Array.setIfInBounds (getA ts r) ((4 : Nat) + Int.toNat c * 1) (Value.int IntKind.u32 to)) (10 : Nat)) (intAt (Array.setIfInBounds (getA ts r) ((4 : Nat) + Int.toNat c * 1) (Value.int IntKind.u32 to)) (11 : Nat)))) = (448 : Nat) ∧ Array.size (setT ts r (lsA (intAt (Array.setIfInBounds (getA ts r) ((4 : Nat) + Int.toNat c * 1) (Value.int IntKind.u32 to)) (0 : Nat)) (intAt (Array.setIfInBounds (getA ts r) ((4 : Nat) + Int.toNat c * 1) (Value.int IntKind.u32 to)) (1 : Nat)) (intAt (Array.setIfInBounds (getA ts r) ((4 : Nat) + Int.toNat c * 1) (Value.int IntKind.u32 to)) (3 : Nat)) (intAt (Array.setIfInBounds (getA ts r) ((4 : Nat) + Int.toNat c * 1) (Value.int IntKind.u32 to)) (4 : Nat)) (intAt (Array.setIfInBounds (getA ts r) ((4 : Nat) + Int.toNat c * 1) (Value.int IntKind.u32 to)) (5 : Nat)) (intAt (Array.setIfInBounds (getA ts r) ((4 : Nat) + Int.toNat c * 1) (Value.int IntKind.u32 to)) (6 : Nat)) (intAt (Array.setIfInBounds (getA ts r) ((4 : Nat) + Int.toNat c * 1) (Value.int IntKind.u32 to)) (7 : Nat)) (intAt (Array.setIfInBounds (getA ts r) ((4 : Nat) + Int.toNat c * 1) (Value.int IntKind.u32 to)) (8 : Nat)) (intAt (Array.setIfInBounds (getA ts r) ((4 : Nat) + Int.toNat c * 1) (Value.int IntKind.u32 to)) (9 : Nat)) (intAt (Array.setIfInBounds (getA ts r) ((4 : Nat) + Int.toNat c * 1) (Value.int IntKind.u32 to)) (10 : Nat)) (intAt (Array.setIfInBounds (getA ts r) ((4 : Nat) + Int.toNat c * 1) (Value.int IntKind.u32 to)) (11 : Nat)))) = (448 : Nat) ∧ True) ∧ (Array.size (setT ts r (lsA (intAt (Array.setIfInBounds (getA ts r) ((4 : Nat) + Int.toNat c * 1) (Value.int IntKind.u32 to)) (0 : Nat)) (intAt (Array.setIfInBounds (getA ts r) ((4 : Nat) + Int.toNat c * 1) (Value.int IntKind.u32 to)) (1 : Nat)) (intAt (Array.setIfInBounds (getA ts r) ((4 : Nat) + Int.toNat c * 1) (Value.int IntKind.u32 to)) (3 : Nat)) (intAt (Array.setIfInBounds (getA ts r) ((4 : Nat) + Int.toNat c * 1) (Value.int IntKind.u32 to)) (4 : Nat)) (intAt (Array.setIfInBounds (getA ts r) ((4 : Nat) + Int.toNat c * 1) (Value.int IntKind.u32 to)) (5 : Nat)) (intAt (Array.setIfInBounds (getA ts r) ((4 : Nat) + Int.toNat c * 1) (Value.int IntKind.u32 to)) (6 : Nat)) (intAt (Array.setIfInBounds (getA ts r) ((4 : Nat) + Int.toNat c * 1) (Value.int IntKind.u32 to)) (7 : Nat)) (intAt (Array.setIfInBounds (getA ts r) ((4 : Nat) + Int.toNat c * 1) (Value.int IntKind.u32 to)) (8 : Nat)) (intAt (Array.setIfInBounds (getA ts r) ((4 : Nat) + Int.toNat c * 1) (Value.int IntKind.u32 to)) (9 : Nat)) (intAt (Array.setIfInBounds (getA ts r) ((4 : Nat) + Int.toNat c * 1) (Value.int IntKind.u32 to)) (10 : Nat)) (intAt (Array.setIfInBounds (getA ts r) ((4 : Nat) + Int.toNat c * 1) (Value.int IntKind.u32 to)) (11 : Nat)))) = (448 : Nat) ∧ True) ∧ o = setT ts r (lsA (intAt (Array.setIfInBounds (getA ts r) ((4 : Nat) + Int.toNat c * 1) (Value.int IntKind.u32 to)) (0 : Nat)) (intAt (Array.setIfInBounds (getA ts r) ((4 : Nat) + Int.toNat c * 1) (Value.int IntKind.u32 to)) (1 : Nat)) (intAt (Array.setIfInBounds (getA ts r) ((4 : Nat) + Int.toNat c * 1) (Value.int IntKind.u32 to)) (3 : Nat)) (intAt (Array.setIfInBounds (getA ts r) ((4 : Nat) + Int.toNat c * 1) (Value.int IntKind.u32 to)) (4 : Nat)) (intAt (Array.setIfInBounds (getA ts r) ((4 : Nat) + Int.toNat c * 1) (Value.int IntKind.u32 to)) (5 : Nat)) (intAt (Array.setIfInBounds (getA ts r) ((4 : Nat) + Int.toNat c * 1) (Value.int IntKind.u32 to)) (6 : Nat)) (intAt (Array.setIfInBounds (getA ts r) ((4 : Nat) + Int.toNat c * 1) (Value.int IntKind.u32 to)) (7 : Nat)) (intAt (Array.setIfInBounds (getA ts r) ((4 : Nat) + Int.toNat c * 1) (Value.int IntKind.u32 to)) (8 : Nat)) (intAt (Array.setIfInBounds (getA ts r) ((4 : Nat) + Int.toNat c * 1) (Value.int IntKind.u32 to)) (9 : Nat)) (intAt (Array.setIfInBounds (getA ts r) ((4 : Nat) + Int.toNat c * 1) (Value.int IntKind.u32 to)) (10 : Nat)) (intAt (Array.setIfInBounds (getA ts r) ((4 : Nat) + Int.toNat c * 1) (Value.int IntKind.u32 to)) (11 : Nat))) ∧ e = getX5 ts r ∧ True)) ∧ (((to == (0 : Int)) == false) = false → (Array.size ts = (448 : Nat) ∧ True) ∧ (TbOk ts ∧ ((0 : Int) ≤ r ∧ r < (4294967296 : Int)) ∧ True) ∧ (Array.size (getA ts r) = (12 : Nat) ∧ Array.size (getA ts r) = (12 : Nat) ∧ True) ∧ (((0 : Int) ≤ c ∧ c < (8 : Int)) ∧ True) ∧ ((4 : Nat) + Int.toNat c * 1 < Array.size (getA ts r) ∧ True) ∧ (Array.size ts = (448 : Nat) ∧ True) ∧ (IsInt IntKind.u32 (Array.setIfInBounds (getA ts r) ((4 : Nat) + Int.toNat c * 1) (Value.int IntKind.u32 to)) (0 : Nat) ∧ IsInt IntKind.i64 (Array.setIfInBounds (getA ts r) ((4 : Nat) + Int.toNat c * 1) (Value.int IntKind.u32 to)) (1 : Nat) ∧ (Array.setIfInBounds (getA ts r) ((4 : Nat) + Int.toNat c * 1) (Value.int IntKind.u32 to))[(2 : Nat)]? = some (Value.slice none (0 : Nat) (0 : Nat)) ∧ IsInt IntKind.i64 (Array.setIfInBounds (getA ts r) ((4 : Nat) + Int.toNat c * 1) (Value.int IntKind.u32 to)) (3 : Nat) ∧ IsInt IntKind.u32 (Array.setIfInBounds (getA ts r) ((4 : Nat) + Int.toNat c * 1) (Value.int IntKind.u32 to)) (4 : Nat) ∧ IsInt IntKind.u32 (Array.setIfInBounds (getA ts r) ((4 : Nat) + Int.toNat c * 1) (Value.int IntKind.u32 to)) (5 : Nat) ∧ IsInt IntKind.u32 (Array.setIfInBounds (getA ts r) ((4 : Nat) + Int.toNat c * 1) (Value.int IntKind.u32 to)) (6 : Nat) ∧ IsInt IntKind.u32 (Array.setIfInBounds (getA ts r) ((4 : Nat) + Int.toNat c * 1) (Value.int IntKind.u32 to)) (7 : Nat) ∧ IsInt IntKind.u32 (Array.setIfInBounds (getA ts r) ((4 : Nat) + Int.toNat c * 1) (Value.int IntKind.u32 to)) (8 : Nat) ∧ IsInt IntKind.u32 (Array.setIfInBounds (getA ts r) ((4 : Nat) + Int.toNat c * 1) (Value.int IntKind.u32 to)) (9 : Nat) ∧ IsInt IntKind.u32 (Array.setIfInBounds (getA ts r) ((4 : Nat) + Int.toNat c * 1) (Value.int IntKind.u32 to)) (10 : Nat) ∧ IsInt IntKind.u32 (Array.setIfInBounds (getA ts r) ((4 : Nat) + Int.toNat c * 1) (Value.int IntKind.u32 to)) (11 : Nat) ∧ True) ∧ (TbOk ts ∧ ((0 : Int) ≤ r ∧ r < (4294967296 : Int)) ∧ RgOk (lsA (intAt (Array.setIfInBounds (getA ts r) ((4 : Nat) + Int.toNat c * 1) (Value.int IntKind.u32 to)) (0 : Nat)) (intAt (Array.setIfInBounds (getA ts r) ((4 : Nat) + Int.toNat c * 1) (Value.int IntKind.u32 to)) (1 : Nat)) (intAt (Array.setIfInBounds (getA ts r) ((4 : Nat) + Int.toNat c * 1) (Value.int IntKind.u32 to)) (3 : Nat)) (intAt (Array.setIfInBounds (getA ts r) ((4 : Nat) + Int.toNat c * 1) (Value.int IntKind.u32 to)) (4 : Nat)) (intAt (Array.setIfInBounds (getA ts r) ((4 : Nat) + Int.toNat c * 1) (Value.int IntKind.u32 to)) (5 : Nat)) (intAt (Array.setIfInBounds (getA ts r) ((4 : Nat) + Int.toNat c * 1) (Value.int IntKind.u32 to)) (6 : Nat)) (intAt (Array.setIfInBounds (getA ts r) ((4 : Nat) + Int.toNat c * 1) (Value.int IntKind.u32 to)) (7 : Nat)) (intAt (Array.setIfInBounds (getA ts r) ((4 : Nat) + Int.toNat c * 1) (Value.int IntKind.u32 to)) (8 : Nat)) (intAt (Array.setIfInBounds (getA ts r) ((4 : Nat) + Int.toNat c * 1) (Value.int IntKind.u32 to)) (9 : Nat)) (intAt (Array.setIfInBounds (getA ts r) ((4 : Nat) + Int.toNat c * 1) (Value.int IntKind.u32 to)) (10 : Nat)) (intAt (Array.setIfInBounds (getA ts r) ((4 : Nat) + Int.toNat c * 1) (Value.int IntKind.u32 to)) (11 : Nat))) (0 : Nat) ∧ True) ∧ (Array.size (setT ts r (lsA (intAt (Array.setIfInBounds (getA ts r) ((4 : Nat) + Int.toNat c * 1) (Value.int IntKind.u32 to)) (0 : Nat)) (intAt (Array.setIfInBounds (getA ts r) ((4 : Nat) + Int.toNat c * 1) (Value.int IntKind.u32 to)) (1 : Nat)) (intAt (Array.setIfInBounds (getA ts r) ((4 : Nat) + Int.toNat c * 1) (Value.int IntKind.u32 to)) (3 : Nat)) (intAt (Array.setIfInBounds (getA ts r) ((4 : Nat) + Int.toNat c * 1) (Value.int IntKind.u32 to)) (4 : Nat)) (intAt (Array.setIfInBounds (getA ts r) ((4 : Nat) + Int.toNat c * 1) (Value.int IntKind.u32 to)) (5 : Nat)) (intAt (Array.setIfInBounds (getA ts r) ((4 : Nat) + Int.toNat c * 1) (Value.int IntKind.u32 to)) (6 : Nat)) (intAt (Array.setIfInBounds (getA ts r) ((4 : Nat) + Int.toNat c * 1) (Value.int IntKind.u32 to)) (7 : Nat)) (intAt (Array.setIfInBounds (getA ts r) ((4 : Nat) + Int.toNat c * 1) (Value.int IntKind.u32 to)) (8 : Nat)) (intAt (Array.setIfInBounds (getA ts r) ((4 : Nat) + Int.toNat c * 1) (Value.int IntKind.u32 to)) (9 : Nat)) (intAt (Array.setIfInBounds (getA ts r) ((4 : Nat) + Int.toNat c * 1) (Value.int IntKind.u32 to)) (10 : Nat)) (intAt (Array.setIfInBounds (getA ts r) ((4 : Nat) + Int.toNat c * 1) (Value.int IntKind.u32 to)) (11 : Nat)))) = (448 : Nat) ∧ Array.size (setT ts r (lsA (intAt (Array.setIfInBounds (getA ts r) ((4 : Nat) + Int.toNat c * 1) (Value.int IntKind.u32 to)) (0 : Nat)) (intAt (Array.setIfInBounds (getA ts r) ((4 : Nat) + Int.toNat c * 1) (Value.int IntKind.u32 to)) (1 : Nat)) (intAt (Array.setIfInBounds (getA ts r) ((4 : Nat) + Int.toNat c * 1) (Value.int IntKind.u32 to)) (3 : Nat)) (intAt (Array.setIfInBounds (getA ts r) ((4 : Nat) + Int.toNat c * 1) (Value.int IntKind.u32 to)) (4 : Nat)) (intAt (Array.setIfInBounds (getA ts r) ((4 : Nat) + Int.toNat c * 1) (Value.int IntKind.u32 to)) (5 : Nat)) (intAt (Array.setIfInBounds (getA ts r) ((4 : Nat) + Int.toNat c * 1) (Value.int IntKind.u32 to)) (6 : Nat)) (intAt (Array.setIfInBounds (getA ts r) ((4 : Nat) + Int.toNat c * 1) (Value.int IntKind.u32 to)) (7 : Nat)) (intAt (Array.setIfInBounds (getA ts r) ((4 : Nat) + Int.toNat c * 1) (Value.int IntKind.u32 to)) (8 : Nat)) (intAt (Array.setIfInBounds (getA ts r) ((4 : Nat) + Int.toNat c * 1) (Value.int IntKind.u32 to)) (9 : Nat)) (intAt (Array.setIfInBounds (getA ts r) ((4 : Nat) + Int.toNat c * 1) (Value.int IntKind.u32 to)) (10 : Nat)) (intAt (Array.setIfInBounds (getA ts r) ((4 : Nat) + Int.toNat c * 1) (Value.int IntKind.u32 to)) (11 : Nat)))) = (448 : Nat) ∧ True) ∧ (Array.size (setT ts r (lsA (intAt (Array.setIfInBounds (getA ts r) ((4 : Nat) + Int.toNat c * 1) (Value.int IntKind.u32 to)) (0 : Nat)) (intAt (Array.setIfInBounds (getA ts r) ((4 : Nat) + Int.toNat c * 1) (Value.int IntKind.u32 to)) (1 : Nat)) (intAt (Array.setIfInBounds (getA ts r) ((4 : Nat) + Int.toNat c * 1) (Value.int IntKind.u32 to)) (3 : Nat)) (intAt (Array.setIfInBounds (getA ts r) ((4 : Nat) + Int.toNat c * 1) (Value.int IntKind.u32 to)) (4 : Nat)) (intAt (Array.setIfInBounds (getA ts r) ((4 : Nat) + Int.toNat c * 1) (Value.int IntKind.u32 to)) (5 : Nat)) (intAt (Array.setIfInBounds (getA ts r) ((4 : Nat) + Int.toNat c * 1) (Value.int IntKind.u32 to)) (6 : Nat)) (intAt (Array.setIfInBounds (getA ts r) ((4 : Nat) + Int.toNat c * 1) (Value.int IntKind.u32 to)) (7 : Nat)) (intAt (Array.setIfInBounds (getA ts r) ((4 : Nat) + Int.toNat c * 1) (Value.int IntKind.u32 to)) (8 : Nat)) (intAt (Array.setIfInBounds (getA ts r) ((4 : Nat) + Int.toNat c * 1) (Value.int IntKind.u32 to)) (9 : Nat)) (intAt (Array.setIfInBounds (getA ts r) ((4 : Nat) + Int.toNat c * 1) (Value.int IntKind.u32 to)) (10 : Nat)) (intAt (Array.setIfInBounds (getA ts r) ((4 : Nat) + Int.toNat c * 1) (Value.int IntKind.u32 to)) (11 : Nat)))) = (448 : Nat) ∧ True) ∧ o = setT ts r (lsA (intAt (Array.setIfInBounds (getA ts r) ((4 : Nat) + Int.toNat c * 1) (Value.int IntKind.u32 to)) (0 : Nat)) (intAt (Array.setIfInBounds (getA ts r) ((4 : Nat) + Int.toNat c * 1) (Value.int IntKind.u32 to)) (1 : Nat)) (intAt (Array.setIfInBounds (getA ts r) ((4 : Nat) + Int.toNat c * 1) (Value.int IntKind.u32 to)) (3 : Nat)) (intAt (Array.setIfInBounds (getA ts r) ((4 : Nat) + Int.toNat c * 1) (Value.int IntKind.u32 to)) (4 : Nat)) (intAt (Array.setIfInBounds (getA ts r) ((4 : Nat) + Int.toNat c * 1) (Value.int IntKind.u32 to)) (5 : Nat)) (intAt (Array.setIfInBounds (getA ts r) ((4 : Nat) + Int.toNat c * 1) (Value.int IntKind.u32 to)) (6 : Nat)) (intAt (Array.setIfInBounds (getA ts r) ((4 : Nat) + Int.toNat c * 1) (Value.int IntKind.u32 to)) (7 : Nat)) (intAt (Array.setIfInBounds (getA ts r) ((4 : Nat) + Int.toNat c * 1) (Value.int IntKind.u32 to)) (8 : Nat)) (intAt (Array.setIfInBounds (getA ts r) ((4 : Nat) + Int.toNat c * 1) (Value.int IntKind.u32 to)) (9 : Nat)) (intAt (Array.setIfInBounds (getA ts r) ((4 : Nat) + Int.toNat c * 1) (Value.int IntKind.u32 to)) (10 : Nat)) (intAt (Array.setIfInBounds (getA ts r) ((4 : Nat) + Int.toNat c * 1) (Value.int IntKind.u32 to)) (11 : Nat))) ∧ e = getX5 ts r ∧ True))) ∧ ((decide (c ≥ (0 : Int)) == true) = false → (Array.size ts = (448 : Nat) ∧ True) ∧ (Array.size ts = (448 : Nat) ∧ Array.size ts = (448 : Nat) ∧ True) ∧ (Array.size ts = (448 : Nat) ∧ True) ∧ o = ts ∧ e = (2 : Int) ∧ True))) ∧ ((goodB (Array.extract ts (0 : Nat) (64 : Nat)) r == true) = false → (Array.size ts = (448 : Nat) ∧ True) ∧ (Array.size ts = (448 : Nat) ∧ Array.size ts = (448 : Nat) ∧ True) ∧ (Array.size ts = (448 : Nat) ∧ True) ∧ o = ts ∧ e = (4 : Int) ∧ True)) := by kernel_rfl
theorem de0 (ts : Array Value) (r c : Int) (o e : Int) : (run ECe 1000 0 [callFr 11 Tryd.f11.ntmps [tbS ts, u32 r, i64 (.o c)] (Tryd.f11.body.getD .skip)] e0M).vc (retOk 0 [] (deS o e) e0M) (fun _ _ => False) =
    ((Array.size ts = (448 : Nat) ∧ True) ∧ (TbOk ts ∧ ((0 : Int) ≤ r ∧ r < (4294967296 : Int)) ∧ True) ∧ (Array.size (getA ts r) = (12 : Nat) ∧ Array.size (getA ts r) = (12 : Nat) ∧ True) ∧ ((!getX5 ts r == (0 : Int)) = true → o = (0 : Int) ∧ e = getX5 ts r ∧ True) ∧ ((!getX5 ts r == (0 : Int)) = false → ((decide (c ≥ (0 : Int)) == true) = true → ((!decide (c < (8 : Int))) = true → o = (0 : Int) ∧ e = (2 : Int) ∧ True) ∧ ((!decide (c < (8 : Int))) = false → (((0 : Int) ≤ c ∧ c < (8 : Int)) ∧ True) ∧ (IsInt IntKind.u32 (getA ts r) ((4 : Nat) + Int.toNat c * 1) ∧ True) ∧ ((!intAt (getA ts r) ((4 : Nat) + Int.toNat c * 1) != (0 : Int)) = true → o = (0 : Int) ∧ e = (10 : Int) ∧ True) ∧ ((!intAt (getA ts r) ((4 : Nat) + Int.toNat c * 1) != (0 : Int)) = false → ((64 : Nat) ≤ Array.size ts ∧ True) ∧ (BkOk (Array.extract ts (0 : Nat) (64 : Nat)) ∧ ((0 : Int) ≤ intAt (getA ts r) ((4 : Nat) + Int.toNat c * 1) ∧ intAt (getA ts r) ((4 : Nat) + Int.toNat c * 1) < (4294967296 : Int)) ∧ True) ∧ ((!goodB (Array.extract ts (0 : Nat) (64 : Nat)) (intAt (getA ts r) ((4 : Nat) + Int.toNat c * 1))) = true → o = (0 : Int) ∧ e = (4 : Int) ∧ True) ∧ ((!goodB (Array.extract ts (0 : Nat) (64 : Nat)) (intAt (getA ts r) ((4 : Nat) + Int.toNat c * 1))) = false → o = intAt (getA ts r) ((4 : Nat) + Int.toNat c * 1) ∧ e = (0 : Int) ∧ True)))) ∧ ((decide (c ≥ (0 : Int)) == true) = false → o = (0 : Int) ∧ e = (2 : Int) ∧ True))) := by kernel_rfl
end Go.Proofs.YtdopckcockgefaaDoor
/- Of cells: Ref, Deref: contracts. No condition. -/
namespace Go.Proofs.YtdopckcockgefaaDoor
set_option maxRecDepth 100000
set_option linter.unusedSimpArgs false
set_option linter.unusedVariables false
theorem conT6_ok : ∀ g l m t, conT6 g l m = some t → Con E0 g l m t := by
  intro g l m t h
  unfold conT6 at h
  split at h
  · rename_i ts x; cases h
    refine Con.args (l' := [tbS ts, u32 x.den]) (fun R vs ha => by
      match vs, ha with
      | [v, w], ha => exact ⟨ha.1, ha.2.1, trivial⟩) ?_
    exact fell_con x.den m
  · rename_i ts u q; cases h
    refine Con.asked fun hq => Con.args (l' := [tbS ts, u32 u.den, i64 (.o q.den)]) (fun R vs ha => by
      match vs, ha with
      | [v, w, z], ha => exact ⟨ha.1, ha.2.1, ha.2.2.1, trivial⟩) ?_
    intro A hs
    exact fnew_con u.den q.den m A ⟨fun p hp => hq p hp, hs⟩
  · exact conT5_ok _ _ _ _ h
theorem ECe_ok : EnvOk ECe := EnvOk.with E0_ok _ _ conT6_ok
section
variable {ts : Array Value}
theorem ref_con (r c to : Int) (firm : Bool) (m : SMem) : Con E0 7 [tbS ts, u32 r, i64 (.o c), u32 to, sB (.o firm)] m (needs [FIn ts, inH r, inH to] (.ret (rgS (refT ts r c to firm) (refE ts r c to firm)) m)) := by
  refine Con.pure E0_ok (by kernel_rfl : E0.fn 7 = some Tryd.f7) (by kernel_rfl : Tryd.f7.body = some (Tryd.f7.body.getD .skip)) (by kernel_rfl) (by kernel_rfl) fun hq => ?_
  have hf : FIn ts := hq _ (by simp)
  have hr : inH r := hq _ (by simp)
  have hto : inH to := hq _ (by simp)
  have hb := hf.ok
  have hs := hb.sz
  have hr' : 0 ≤ r ∧ r < 4294967296 := hr
  have ht' : 0 ≤ to ∧ to < 4294967296 := hto
  have h64 : (64 : Nat) ≤ 448 := by decide
  have hbk : BkOk (bkB ts) := hb.bk
  refine (Good.ret [] (run_vc ECe_ok 1000 (rf0 ts r c to firm (refT ts r c to firm) (refE ts r c to firm)) ?_ (fun s m h => h) fun _ _ h => h.elim)).mono fun _ _ h => h.1
  cases hg : gdF ts r with
  | false =>
    have hg' : goodB (bkB ts) r = false := hg
    have ee : refE ts r c to firm = 4 := by unfold refE; rw [if_pos (.inl hg)]
    have eo : refT ts r c to firm = ts := by unfold refT; rw [if_neg (by rw [ee]; decide)]
    simp only [hg', ee, eo, bk_f, hs, hb, hf, hr', ht', hbk, h64, beqT, beqF, Bool.not_true, Bool.not_false, true_implies, Bool.true_eq_false, Bool.false_eq_true, false_implies, and_true, true_and]
  | true =>
    have hg' : goodB (bkB ts) r = true := hg
    by_cases hz : to = 0
    · have tz : (to == 0) = true := beq_iff_eq.2 hz
      have n1 : ¬ (gdF ts r = false ∨ (to ≠ 0 ∧ gdF ts to = false)) := by
        rintro (k | k)
        · rw [hg] at k; cases k
        · exact k.1 hz
      by_cases c1 : 0 ≤ c
      rotate_left
      · have d1 : decide (c ≥ 0) = false := decide_eq_false (by omega)
        have ee : refE ts r c to firm = 2 := by unfold refE; rw [if_neg n1, if_neg (by omega)]
        have eo : refT ts r c to firm = ts := by unfold refT; rw [if_neg (by rw [ee]; decide)]
        simp only [hg', tz, d1, ee, eo, bk_f, hs, hb, hf, hr', ht', hbk, h64, beqT, beqF, Bool.not_true, Bool.not_false, true_implies, Bool.true_eq_false, Bool.false_eq_true, false_implies, and_true, true_and]
      have d1 : decide (c ≥ 0) = true := decide_eq_true (by omega)
      by_cases c2 : c < 8
      rotate_left
      · have d2 : decide (c < 8) = false := decide_eq_false (by omega)
        have ee : refE ts r c to firm = 2 := by unfold refE; rw [if_neg n1, if_neg (by omega)]
        have eo : refT ts r c to firm = ts := by unfold refT; rw [if_neg (by rw [ee]; decide)]
        simp only [hg', tz, d1, d2, ee, eo, bk_f, hs, hb, hf, hr', ht', hbk, h64, beqT, beqF, Bool.not_true, Bool.not_false, true_implies, Bool.true_eq_false, Bool.false_eq_true, false_implies, and_true, true_and]
      have d2 : decide (c < 8) = true := decide_eq_true (by omega)
      have ee : refE ts r c to firm = 0 := by unfold refE; rw [if_neg n1, if_pos ⟨c1, c2⟩, if_pos (.inl hz)]
      have eo : refT ts r c to firm = setT ts r (refR ts r c to) := by unfold refT; rw [if_pos ee]
      have hk : c.toNat < 8 := by omega
      have y0 : 0 ≤ c := by omega
      have y1 : c < 8 := by omega
      have y2 : 4 + c.toNat < 12 := by omega
      have g12 := (getA_facts ts r).1
      obtain ⟨l1, ⟨l2, l3, l4, l5, l6⟩, _⟩ := ls_ok hb hg hto hk
      have hs2 := (set_f hb hg l1).1.sz
      have m0 := l6 0 (by decide)
      have m1 := l6 1 (by decide)
      have m2 := l6 2 (by decide)
      have m3 := l6 3 (by decide)
      have m4 := l6 4 (by decide)
      have m5 := l6 5 (by decide)
      have m6 := l6 6 (by decide)
      have m7 := l6 7 (by decide)
      have e5 : getX5 ts r = 0 := by unfold getX5; rw [if_pos hg]
      have eR : refR ts r c to = lsR ((getA ts r).setIfInBounds (4 + c.toNat) (.int .u32 to)) := rfl
      rw [eR] at eo
      simp only [Nat.mul_one, hg', tz, d1, d2, e5, y0, y1, y2, g12, eo, ee]
      generalize (getA ts r).setIfInBounds (4 + c.toNat) (.int .u32 to) = rr at *
      simp only [lsR_f, l1, l2, l3, l4, l5, m0, m1, m2, m3, m4, m5, m6, m7, hs2, hg', tz, d1, d2, decide_true, bk_f, hs, hb, hf, hr', ht', hbk, h64, beqT, beqF, Bool.not_true, Bool.not_false, true_implies, Bool.true_eq_false, Bool.false_eq_true, false_implies, and_true, true_and]
    · have tz : (to == 0) = false := beq_eq_false_iff_ne.2 hz
      cases hgt : gdF ts to with
      | false =>
        have hgt' : goodB (bkB ts) to = false := hgt
        have ee : refE ts r c to firm = 4 := by unfold refE; rw [if_pos (.inr ⟨hz, hgt⟩)]
        have eo : refT ts r c to firm = ts := by unfold refT; rw [if_neg (by rw [ee]; decide)]
        simp only [hg', tz, hgt', ee, eo, bk_f, hs, hb, hf, hr', ht', hbk, h64, beqT, beqF, Bool.not_true, Bool.not_false, true_implies, Bool.true_eq_false, Bool.false_eq_true, false_implies, and_true, true_and]
      | true =>
        have hgt' : goodB (bkB ts) to = true := hgt
        have n1 : ¬ (gdF ts r = false ∨ (to ≠ 0 ∧ gdF ts to = false)) := by
          rintro (k | k)
          · rw [hg] at k; cases k
          · rw [hgt] at k; cases k.2
        by_cases c1 : 0 ≤ c
        rotate_left
        · have d1 : decide (c ≥ 0) = false := decide_eq_false (by omega)
          have ee : refE ts r c to firm = 2 := by unfold refE; rw [if_neg n1, if_neg (by omega)]
          have eo : refT ts r c to firm = ts := by unfold refT; rw [if_neg (by rw [ee]; decide)]
          simp only [hg', tz, hgt', d1, ee, eo, bk_f, hs, hb, hf, hr', ht', hbk, h64, beqT, beqF, Bool.not_true, Bool.not_false, true_implies, Bool.true_eq_false, Bool.false_eq_true, false_implies, and_true, true_and]
        have d1 : decide (c ≥ 0) = true := decide_eq_true (by omega)
        by_cases c2 : c < 8
        rotate_left
        · have d2 : decide (c < 8) = false := decide_eq_false (by omega)
          have ee : refE ts r c to firm = 2 := by unfold refE; rw [if_neg n1, if_neg (by omega)]
          have eo : refT ts r c to firm = ts := by unfold refT; rw [if_neg (by rw [ee]; decide)]
          simp only [hg', tz, hgt', d1, d2, ee, eo, bk_f, hs, hb, hf, hr', ht', hbk, h64, beqT, beqF, Bool.not_true, Bool.not_false, true_implies, Bool.true_eq_false, Bool.false_eq_true, false_implies, and_true, true_and]
        have d2 : decide (c < 8) = true := decide_eq_true (by omega)
        cases firm with
        | true =>
          have ee : refE ts r c to true = 0 := by unfold refE; rw [if_neg n1, if_pos ⟨c1, c2⟩, if_pos (.inr (.inl rfl))]
          have eo : refT ts r c to true = setT ts r (refR ts r c to) := by unfold refT; rw [if_pos ee]
          have hk : c.toNat < 8 := by omega
          have y0 : 0 ≤ c := by omega
          have y1 : c < 8 := by omega
          have y2 : 4 + c.toNat < 12 := by omega
          have g12 := (getA_facts ts r).1
          obtain ⟨l1, ⟨l2, l3, l4, l5, l6⟩, _⟩ := ls_ok hb hg hto hk
          have hs2 := (set_f hb hg l1).1.sz
          have m0 := l6 0 (by decide)
          have m1 := l6 1 (by decide)
          have m2 := l6 2 (by decide)
          have m3 := l6 3 (by decide)
          have m4 := l6 4 (by decide)
          have m5 := l6 5 (by decide)
          have m6 := l6 6 (by decide)
          have m7 := l6 7 (by decide)
          have e5 : getX5 ts r = 0 := by unfold getX5; rw [if_pos hg]
          have eR : refR ts r c to = lsR ((getA ts r).setIfInBounds (4 + c.toNat) (.int .u32 to)) := rfl
          rw [eR] at eo
          simp only [Nat.mul_one, hg', tz, hgt', d1, d2, e5, y0, y1, y2, g12, eo, ee]
          generalize (getA ts r).setIfInBounds (4 + c.toNat) (.int .u32 to) = rr at *
          simp only [lsR_f, l1, l2, l3, l4, l5, m0, m1, m2, m3, m4, m5, m6, m7, hs2, hg', tz, hgt', d1, d2, decide_true, bk_f, hs, hb, hf, hr', ht', hbk, h64, beqT, beqF, Bool.not_true, Bool.not_false, true_implies, Bool.true_eq_false, Bool.false_eq_true, false_implies, and_true, true_and]
        | false =>
          cases ho : outF ts to r with
          | false =>
            have n2 : ¬ (to = 0 ∨ false = true ∨ outF ts to r = true) := by
              rintro (k | k | k)
              · exact hz k
              · cases k
              · rw [ho] at k; cases k
            have ee : refE ts r c to false = 5 := by unfold refE; rw [if_neg n1, if_pos ⟨c1, c2⟩, if_neg n2]
            have eo : refT ts r c to false = ts := by unfold refT; rw [if_neg (by rw [ee]; decide)]
            simp only [hg', tz, hgt', d1, d2, ho, ee, eo, bk_f, hs, hb, hf, hr', ht', hbk, h64, beqT, beqF, Bool.not_true, Bool.not_false, true_implies, Bool.true_eq_false, Bool.false_eq_true, false_implies, and_true, true_and]
          | true =>
            have ee : refE ts r c to false = 0 := by unfold refE; rw [if_neg n1, if_pos ⟨c1, c2⟩, if_pos (.inr (.inr ho))]
            have eo : refT ts r c to false = setT ts r (refR ts r c to) := by unfold refT; rw [if_pos ee]
            have hk : c.toNat < 8 := by omega
            have y0 : 0 ≤ c := by omega
            have y1 : c < 8 := by omega
            have y2 : 4 + c.toNat < 12 := by omega
            have g12 := (getA_facts ts r).1
            obtain ⟨l1, ⟨l2, l3, l4, l5, l6⟩, _⟩ := ls_ok hb hg hto hk
            have hs2 := (set_f hb hg l1).1.sz
            have m0 := l6 0 (by decide)
            have m1 := l6 1 (by decide)
            have m2 := l6 2 (by decide)
            have m3 := l6 3 (by decide)
            have m4 := l6 4 (by decide)
            have m5 := l6 5 (by decide)
            have m6 := l6 6 (by decide)
            have m7 := l6 7 (by decide)
            have e5 : getX5 ts r = 0 := by unfold getX5; rw [if_pos hg]
            have eR : refR ts r c to = lsR ((getA ts r).setIfInBounds (4 + c.toNat) (.int .u32 to)) := rfl
            rw [eR] at eo
            simp only [Nat.mul_one, hg', tz, hgt', d1, d2, ho, e5, y0, y1, y2, g12, eo, ee]
            generalize (getA ts r).setIfInBounds (4 + c.toNat) (.int .u32 to) = rr at *
            simp only [lsR_f, l1, l2, l3, l4, l5, m0, m1, m2, m3, m4, m5, m6, m7, hs2, hg', tz, hgt', d1, d2, ho, decide_true, bk_f, hs, hb, hf, hr', ht', hbk, h64, beqT, beqF, Bool.not_true, Bool.not_false, true_implies, Bool.true_eq_false, Bool.false_eq_true, false_implies, and_true, true_and]
theorem der_con (r c : Int) (m : SMem) : Con E0 11 [tbS ts, u32 r, i64 (.o c)] m (needs [TbOk ts, inH r] (.ret (deS (derT ts r c) (derE ts r c)) m)) := by
  refine Con.pure E0_ok (by kernel_rfl : E0.fn 11 = some Tryd.f11) (by kernel_rfl : Tryd.f11.body = some (Tryd.f11.body.getD .skip)) (by kernel_rfl) (by kernel_rfl) fun hq => ?_
  have hb : TbOk ts := hq _ (by simp)
  have hr : inH r := hq _ (by simp)
  have hs := hb.sz
  have hr' : 0 ≤ r ∧ r < 4294967296 := hr
  have h64 : (64 : Nat) ≤ 448 := by decide
  have hbk : BkOk (bkB ts) := hb.bk
  have g12 := (getA_facts ts r).1
  refine (Good.ret [] (run_vc ECe_ok 1000 (de0 ts r c (derT ts r c) (derE ts r c)) ?_ (fun s m h => h) fun _ _ h => h.elim)).mono fun _ _ h => h.1
  have ne : ∀ E : Int, derE ts r c = E → E ≠ 0 → derT ts r c = 0 := fun E e hE => by unfold derT; rw [if_neg (by rw [e]; exact hE)]
  cases hg : gdF ts r with
  | false =>
    have e5 : getX5 ts r = 4 := by unfold getX5; rw [hg]; rfl
    have ee : derE ts r c = 4 := by unfold derE; rw [if_pos hg]
    have eo := ne 4 ee (by decide)
    have d : ((4 : Int) == 0) = false := rfl
    simp only [e5, ee, eo, d, g12, hs, hb, hr', Bool.not_true, Bool.not_false, true_implies, Bool.true_eq_false, Bool.false_eq_true, false_implies, and_true, true_and]
  | true =>
    have e5 : getX5 ts r = 0 := by unfold getX5; rw [if_pos hg]
    have d : ((0 : Int) == 0) = true := rfl
    have hn : ¬ gdF ts r = false := by rw [hg]; simp
    by_cases c1 : 0 ≤ c
    rotate_left
    · have d1 : decide (c ≥ 0) = false := decide_eq_false (by omega)
      have ee : derE ts r c = 2 := by unfold derE; rw [if_neg hn, if_neg (by omega)]
      have eo := ne 2 ee (by decide)
      simp only [e5, ee, eo, d, d1, g12, hs, hb, hr', beqT, beqF, Bool.not_true, Bool.not_false, true_implies, Bool.true_eq_false, Bool.false_eq_true, false_implies, and_true, true_and]
    have d1 : decide (c ≥ 0) = true := decide_eq_true (by omega)
    by_cases c2 : c < 8
    rotate_left
    · have d2 : decide (c < 8) = false := decide_eq_false (by omega)
      have ee : derE ts r c = 2 := by unfold derE; rw [if_neg hn, if_neg (by omega)]
      have eo := ne 2 ee (by decide)
      simp only [e5, ee, eo, d, d1, d2, g12, hs, hb, hr', beqT, beqF, Bool.not_true, Bool.not_false, true_implies, Bool.true_eq_false, Bool.false_eq_true, false_implies, and_true, true_and]
    have d2 : decide (c < 8) = true := decide_eq_true (by omega)
    have hk : c.toNat < 8 := by omega
    have ga : getA ts r = rgA (upF ts r) (quF ts r) 0 (ceF ts r) := by unfold getA; rw [if_pos hg]
    have cc : (getA ts r)[4 + c.toNat]? = some (.int .u32 (ceF ts r c.toNat)) := by
      rw [ga]
      generalize c.toNat = j at hk
      match j, hk with
      | 0, _ | 1, _ | 2, _ | 3, _ | 4, _ | 5, _ | 6, _ | 7, _ => rfl
    have g1 : IsInt .u32 (getA ts r) (4 + c.toNat) := isI_of cc
    have g2 : intAt (getA ts r) (4 + c.toNat) = ceF ts r c.toNat := intAt_of cc
    have hin : 0 ≤ ceF ts r c.toNat ∧ ceF ts r c.toNat < 4294967296 := (rg_in hb hg).2.2 _ hk
    have eE : derE ts r c = if ceF ts r c.toNat = 0 then 10 else if gdF ts (ceF ts r c.toNat) = true then 0 else 4 := by unfold derE; rw [if_neg hn, if_pos ⟨c1, c2⟩]
    by_cases hz : ceF ts r c.toNat = 0
    · have dz : (ceF ts r c.toNat != 0) = false := by rw [hz]; rfl
      have ee : derE ts r c = 10 := by rw [eE, if_pos hz]
      have eo := ne 10 ee (by decide)
      simp only [Nat.mul_one, e5, ee, eo, d, d1, d2, g1, g2, dz, c1, c2, g12, decide_true, hs, hb, hr', beqT, beqF, Bool.not_true, Bool.not_false, true_implies, Bool.true_eq_false, Bool.false_eq_true, false_implies, and_true, true_and]
    · have dz : (ceF ts r c.toNat != 0) = true := bne_iff_ne.2 hz
      cases hgt : gdF ts (ceF ts r c.toNat) with
      | false =>
        have hgt' : goodB (bkB ts) (ceF ts r c.toNat) = false := hgt
        have ee : derE ts r c = 4 := by rw [eE, if_neg hz, if_neg (by rw [hgt]; simp)]
        have eo := ne 4 ee (by decide)
        simp only [bk_f, Nat.mul_one, e5, ee, eo, d, d1, d2, g1, g2, dz, hgt', hin, c1, c2, g12, decide_true, hs, hb, hbk, h64, hr', beqT, beqF, Bool.not_true, Bool.not_false, true_implies, Bool.true_eq_false, Bool.false_eq_true, false_implies, and_true, true_and]
      | true =>
        have hgt' : goodB (bkB ts) (ceF ts r c.toNat) = true := hgt
        have ee : derE ts r c = 0 := by rw [eE, if_neg hz, if_pos hgt]
        have eo : derT ts r c = ceF ts r c.toNat := by unfold derT; rw [if_pos ee]
        simp only [bk_f, Nat.mul_one, e5, ee, eo, d, d1, d2, g1, g2, dz, hgt', hin, c1, c2, g12, decide_true, hs, hb, hbk, h64, hr', beqT, beqF, Bool.not_true, Bool.not_false, true_implies, Bool.true_eq_false, Bool.false_eq_true, false_implies, and_true, true_and]
end
end Go.Proofs.YtdopckcockgefaaDoor
/- Of cells: CellNeverStale: the law's states. No condition. -/
namespace Go.Proofs.YtdopckcockgefaaDoor
set_option linter.unusedVariables false
noncomputable def acS (off n : Nat) : SV := .s (.c (.f (.slice 0 (.o off) (.o n) .any)))
noncomputable def eS : SV := .s (.c (.f .e0))
noncomputable def conT7 (g : FuncId) (l : List SV) (m : SMem) : Option Tree := match g, l with
  | 5, [] => some (.ret (sB (.l true)) m)
  | 7, [.s (.agg (.op ts)), .s (.c (.f (.int .u32 r))), .s (.c (.f (.int .i64 c))), .s (.c (.f (.int .u32 to))), .s (.c (.f (.bool fi)))] => some (.need [FIn ts, inH r.den, inH to.den] (.ret (rgS (refT ts r.den c.den to.den fi.den) (refE ts r.den c.den to.den fi.den)) m))
  | 11, [.s (.agg (.op ts)), .s (.c (.f (.int .u32 r))), .s (.c (.f (.int .i64 c)))] => some (.need [TbOk ts, inH r.den] (.ret (deS (derT ts r.den c.den) (derE ts r.den c.den)) m))
  | g, l => conT6 g l m
noncomputable def EL : Env := ⟨Tryd.prog, fnOf, conT7, haltAt [4 * 1000 + 5, 4 * 1000 + 23, 4 * 1000 + 25, 4 * 1000 + 28]⟩
noncomputable def EW : Env := ⟨Tryd.prog, fnOf, conT7, haltAt []⟩
noncomputable def pL_d0 : List SIt := sekF Tryd.f4 5
noncomputable def pL_F (off : Nat) (n : Nat) (cs : Array Value) (ty : TypeId) (i : Int) (ts : Array Value) : List SFr := [frOf 4 Tryd.f4 [(0, acS off n), (3, ptr 1 (.l 0)), (4, i64 (.o i))] pL_d0]
noncomputable def pL_M (off : Nat) (n : Nat) (cs : Array Value) (ty : TypeId) (i : Int) (ts : Array Value) : SMem := mkM 2 [(0, ⟨.raw cs, ty, false⟩), (1, ⟨.op ts, 39, true⟩)]
noncomputable def pL_n (off : Nat) (n : Nat) (cs : Array Value) (ty : TypeId) (Q : Int → Array Value → Prop) (fs : List SFr) (m : SMem) : Prop := (match frNth fs 0 with | some f0 => (match rdI f0 4 with | some i => (match rdP f0 3 with | some p1 => (match rdA m p1 with | some ts => Q i ts ∧ subOk 1 [(1, p1)] (pL_F off n cs ty i ts) (pL_M off n cs ty i ts) fs m | none => False) | none => False) | none => False) | none => False)
noncomputable def pE_d0 : List SIt := sekF Tryd.f4 23
noncomputable def pE_F (off : Nat) (n : Nat) (cs : Array Value) (ty : TypeId) (i : Int) (ts : Array Value) : List SFr := [frOf 4 Tryd.f4 [(0, acS off n), (3, ptr 1 (.l 0)), (4, i64 (.o i))] pE_d0]
noncomputable def pE_M (off : Nat) (n : Nat) (cs : Array Value) (ty : TypeId) (i : Int) (ts : Array Value) : SMem := mkM 2 [(0, ⟨.raw cs, ty, false⟩), (1, ⟨.op ts, 39, true⟩)]
noncomputable def pE_n (off : Nat) (n : Nat) (cs : Array Value) (ty : TypeId) (Q : Int → Array Value → Prop) (fs : List SFr) (m : SMem) : Prop := (match frNth fs 0 with | some f0 => (match rdI f0 4 with | some i => (match rdP f0 3 with | some p1 => (match rdA m p1 with | some ts => Q i ts ∧ subOk 1 [(1, p1)] (pE_F off n cs ty i ts) (pE_M off n cs ty i ts) fs m | none => False) | none => False) | none => False) | none => False)
noncomputable def pN_d0 : List SIt := sekF Tryd.f4 25
noncomputable def pN_F (off : Nat) (n : Nat) (cs : Array Value) (ty : TypeId) (i : Int) (ts : Array Value) (j : Int) : List SFr := [frOf 4 Tryd.f4 [(0, acS off n), (3, ptr 1 (.l 0)), (4, i64 (.o i)), (11, nlS), (12, i64 (.o j))] pN_d0]
noncomputable def pN_M (off : Nat) (n : Nat) (cs : Array Value) (ty : TypeId) (i : Int) (ts : Array Value) (j : Int) : SMem := mkM 2 [(0, ⟨.raw cs, ty, false⟩), (1, ⟨.op ts, 39, true⟩)]
noncomputable def pN_n (off : Nat) (n : Nat) (cs : Array Value) (ty : TypeId) (Q : Int → Array Value → Int → Prop) (fs : List SFr) (m : SMem) : Prop := (match frNth fs 0 with | some f0 => (match rdI f0 4 with | some i => (match rdI f0 12 with | some j => (match rdP f0 3 with | some p1 => (match rdA m p1 with | some ts => Q i ts j ∧ subOk 1 [(1, p1)] (pN_F off n cs ty i ts j) (pN_M off n cs ty i ts j) fs m | none => False) | none => False) | none => False) | none => False) | none => False)
noncomputable def pF_d0 : List SIt := sekF Tryd.f4 25
noncomputable def pF_F (off : Nat) (n : Nat) (cs : Array Value) (ty : TypeId) (r : Nat) (ks : Array Value) (i : Int) (ts : Array Value) (j : Int) : List SFr := [frOf 4 Tryd.f4 [(0, acS off n), (3, ptr 1 (.l 0)), (4, i64 (.o i)), (11, slS 2 r), (12, i64 (.o j))] pF_d0]
noncomputable def pF_M (off : Nat) (n : Nat) (cs : Array Value) (ty : TypeId) (r : Nat) (ks : Array Value) (i : Int) (ts : Array Value) (j : Int) : SMem := mkM 3 [(0, ⟨.raw cs, ty, false⟩), (1, ⟨.op ts, 39, true⟩), (2, ⟨.pop ks, 30, true⟩)]
noncomputable def pF_n (off : Nat) (n : Nat) (cs : Array Value) (ty : TypeId) (r : Nat) (ks : Array Value) (Q : Int → Array Value → Int → Prop) (fs : List SFr) (m : SMem) : Prop := (match frNth fs 0 with | some f0 => (match rdI f0 4 with | some i => (match rdI f0 12 with | some j => (match rdP f0 3 with | some p1 => (match rdSI f0 11 with | some p2 => (match rdA m p1 with | some ts => Q i ts j ∧ subOk 1 [(1, p1), (2, p2)] (pF_F off n cs ty r ks i ts j) (pF_M off n cs ty r ks i ts j) fs m | none => False) | none => False) | none => False) | none => False) | none => False) | none => False)
noncomputable def pG_d0 : List SIt := sekF Tryd.f4 28
noncomputable def pG_F (off : Nat) (n : Nat) (cs : Array Value) (ty : TypeId) (r : Nat) (ks : Array Value) (i : Int) (ts : Array Value) (j : Int) (c : Int) : List SFr := [frOf 4 Tryd.f4 [(0, acS off n), (3, ptr 1 (.l 0)), (4, i64 (.o i)), (11, slS 2 r), (12, i64 (.o j)), (13, i64 (.o c))] pG_d0]
noncomputable def pG_M (off : Nat) (n : Nat) (cs : Array Value) (ty : TypeId) (r : Nat) (ks : Array Value) (i : Int) (ts : Array Value) (j : Int) (c : Int) : SMem := mkM 3 [(0, ⟨.raw cs, ty, false⟩), (1, ⟨.op ts, 39, true⟩), (2, ⟨.pop ks, 30, true⟩)]
noncomputable def pG_n (off : Nat) (n : Nat) (cs : Array Value) (ty : TypeId) (r : Nat) (ks : Array Value) (Q : Int → Array Value → Int → Int → Prop) (fs : List SFr) (m : SMem) : Prop := (match frNth fs 0 with | some f0 => (match rdI f0 4 with | some i => (match rdI f0 12 with | some j => (match rdI f0 13 with | some c => (match rdP f0 3 with | some p1 => (match rdSI f0 11 with | some p2 => (match rdA m p1 with | some ts => Q i ts j c ∧ subOk 1 [(1, p1), (2, p2)] (pG_F off n cs ty r ks i ts j c) (pG_M off n cs ty r ks i ts j c) fs m | none => False) | none => False) | none => False) | none => False) | none => False) | none => False) | none => False)
noncomputable def pNF (off n : Nat) (cs : Array Value) (ty : TypeId) (r : Nat) (ks : Array Value) (QN QF : Int → Array Value → Int → Prop) (fs : List SFr) (m : SMem) : Prop := match fs with | f :: _ => (match f.tm.get 11 with | some (.s (.c (.f (.slice _ _ _ _)))) => pF_n off n cs ty r ks QF fs m | _ => pN_n off n cs ty QN fs m) | [] => False
noncomputable def v0_t (off : Nat) (n : Nat) (cs : Array Value) (ty : TypeId) : Tree := run EL 1000 1 [callFr 4 Tryd.f4.ntmps [acS off n] (Tryd.f4.body.getD .skip)] (mkM 1 [(0, ⟨.raw cs, ty, false⟩)])
noncomputable def v0_x (off : Nat) (n : Nat) (cs : Array Value) (ty : TypeId) (QpL : Int → Array Value → Prop) (fs : List SFr) (m : SMem) : Prop := pL_n off n cs ty QpL fs m
noncomputable def vL_t (off : Nat) (n : Nat) (cs : Array Value) (ty : TypeId) (i : Int) (ts : Array Value) : Tree := stepT EL.go (run EL 1000) 1 (pL_F off n cs ty i ts) (pL_M off n cs ty i ts)
noncomputable def vL_x (off : Nat) (n : Nat) (cs : Array Value) (ty : TypeId) (i : Int) (ts : Array Value) (QpE : Int → Array Value → Prop) (fs : List SFr) (m : SMem) : Prop := pE_n off n cs ty QpE fs m
noncomputable def vN_t (off : Nat) (n : Nat) (cs : Array Value) (ty : TypeId) (i : Int) (ts : Array Value) (j : Int) : Tree := stepT EL.go (run EL 1000) 1 (pN_F off n cs ty i ts j) (pN_M off n cs ty i ts j)
noncomputable def vN_x (off : Nat) (n : Nat) (cs : Array Value) (ty : TypeId) (i : Int) (ts : Array Value) (j : Int) (QpL : Int → Array Value → Prop) (fs : List SFr) (m : SMem) : Prop := pL_n off n cs ty QpL fs m
noncomputable def vF_t (off : Nat) (n : Nat) (cs : Array Value) (ty : TypeId) (r : Nat) (ks : Array Value) (i : Int) (ts : Array Value) (j : Int) : Tree := stepT EL.go (run EL 1000) 1 (pF_F off n cs ty r ks i ts j) (pF_M off n cs ty r ks i ts j)
noncomputable def vF_x (off : Nat) (n : Nat) (cs : Array Value) (ty : TypeId) (r : Nat) (ks : Array Value) (i : Int) (ts : Array Value) (j : Int) (QpG : Int → Array Value → Int → Int → Prop) (QpL : Int → Array Value → Prop) (fs : List SFr) (m : SMem) : Prop := (match Nat.beq (atR fs) 4028 with | true => pG_n off n cs ty r ks QpG fs m | false => pL_n off n cs ty QpL fs m)
noncomputable def vG_t (off : Nat) (n : Nat) (cs : Array Value) (ty : TypeId) (r : Nat) (ks : Array Value) (i : Int) (ts : Array Value) (j : Int) (c : Int) : Tree := stepT EL.go (run EL 1000) 1 (pG_F off n cs ty r ks i ts j c) (pG_M off n cs ty r ks i ts j c)
noncomputable def vG_x (off : Nat) (n : Nat) (cs : Array Value) (ty : TypeId) (r : Nat) (ks : Array Value) (i : Int) (ts : Array Value) (j : Int) (c : Int) (QpG : Int → Array Value → Int → Int → Prop) (QpF : Int → Array Value → Int → Prop) (fs : List SFr) (m : SMem) : Prop := (match Nat.beq (atR fs) 4028 with | true => pG_n off n cs ty r ks QpG fs m | false => pF_n off n cs ty r ks QpF fs m)
theorem pL_d0_ok (r : Nat → Option Nat) : TodoOk r pL_d0 pL_d0 := TodoOk.it (by kernel_rfl)
theorem pE_d0_ok (r : Nat → Option Nat) : TodoOk r pE_d0 pE_d0 := TodoOk.it (by kernel_rfl)
theorem pN_d0_ok (r : Nat → Option Nat) : TodoOk r pN_d0 pN_d0 := TodoOk.it (by kernel_rfl)
theorem pF_d0_ok (r : Nat → Option Nat) : TodoOk r pF_d0 pF_d0 := TodoOk.it (by kernel_rfl)
theorem pG_d0_ok (r : Nat → Option Nat) : TodoOk r pG_d0 pG_d0 := TodoOk.it (by kernel_rfl)
theorem pL_good {A : SV → SMem → Prop} {off : Nat} {n : Nat} {cs : Array Value} {ty : TypeId} {Q : Int → Array Value → Prop} {fs : List SFr} {m : SMem} (H : ∀ i ts, Q i ts → Good Tryd.prog A 1 (pL_F off n cs ty i ts) (pL_M off n cs ty i ts)) (hb : pL_n off n cs ty Q fs m) : Good Tryd.prog A 1 fs m := by
  unfold pL_n at hb
  split at hb
  rotate_left
  · exact hb.elim
  split at hb
  rotate_left
  · exact hb.elim
  split at hb
  rotate_left
  · exact hb.elim
  split at hb
  rotate_left
  · exact hb.elim
  exact Good.of_sub hb.2 (H _ _ hb.1)
theorem pE_good {A : SV → SMem → Prop} {off : Nat} {n : Nat} {cs : Array Value} {ty : TypeId} {Q : Int → Array Value → Prop} {fs : List SFr} {m : SMem} (H : ∀ i ts, Q i ts → Good Tryd.prog A 1 (pE_F off n cs ty i ts) (pE_M off n cs ty i ts)) (hb : pE_n off n cs ty Q fs m) : Good Tryd.prog A 1 fs m := by
  unfold pE_n at hb
  split at hb
  rotate_left
  · exact hb.elim
  split at hb
  rotate_left
  · exact hb.elim
  split at hb
  rotate_left
  · exact hb.elim
  split at hb
  rotate_left
  · exact hb.elim
  exact Good.of_sub hb.2 (H _ _ hb.1)
theorem pN_good {A : SV → SMem → Prop} {off : Nat} {n : Nat} {cs : Array Value} {ty : TypeId} {Q : Int → Array Value → Int → Prop} {fs : List SFr} {m : SMem} (H : ∀ i ts j, Q i ts j → Good Tryd.prog A 1 (pN_F off n cs ty i ts j) (pN_M off n cs ty i ts j)) (hb : pN_n off n cs ty Q fs m) : Good Tryd.prog A 1 fs m := by
  unfold pN_n at hb
  split at hb
  rotate_left
  · exact hb.elim
  split at hb
  rotate_left
  · exact hb.elim
  split at hb
  rotate_left
  · exact hb.elim
  split at hb
  rotate_left
  · exact hb.elim
  split at hb
  rotate_left
  · exact hb.elim
  exact Good.of_sub hb.2 (H _ _ _ hb.1)
theorem pF_good {A : SV → SMem → Prop} {off : Nat} {n : Nat} {cs : Array Value} {ty : TypeId} {r : Nat} {ks : Array Value} {Q : Int → Array Value → Int → Prop} {fs : List SFr} {m : SMem} (H : ∀ i ts j, Q i ts j → Good Tryd.prog A 1 (pF_F off n cs ty r ks i ts j) (pF_M off n cs ty r ks i ts j)) (hb : pF_n off n cs ty r ks Q fs m) : Good Tryd.prog A 1 fs m := by
  unfold pF_n at hb
  split at hb
  rotate_left
  · exact hb.elim
  split at hb
  rotate_left
  · exact hb.elim
  split at hb
  rotate_left
  · exact hb.elim
  split at hb
  rotate_left
  · exact hb.elim
  split at hb
  rotate_left
  · exact hb.elim
  split at hb
  rotate_left
  · exact hb.elim
  exact Good.of_sub hb.2 (H _ _ _ hb.1)
theorem pG_good {A : SV → SMem → Prop} {off : Nat} {n : Nat} {cs : Array Value} {ty : TypeId} {r : Nat} {ks : Array Value} {Q : Int → Array Value → Int → Int → Prop} {fs : List SFr} {m : SMem} (H : ∀ i ts j c, Q i ts j c → Good Tryd.prog A 1 (pG_F off n cs ty r ks i ts j c) (pG_M off n cs ty r ks i ts j c)) (hb : pG_n off n cs ty r ks Q fs m) : Good Tryd.prog A 1 fs m := by
  unfold pG_n at hb
  split at hb
  rotate_left
  · exact hb.elim
  split at hb
  rotate_left
  · exact hb.elim
  split at hb
  rotate_left
  · exact hb.elim
  split at hb
  rotate_left
  · exact hb.elim
  split at hb
  rotate_left
  · exact hb.elim
  split at hb
  rotate_left
  · exact hb.elim
  split at hb
  rotate_left
  · exact hb.elim
  exact Good.of_sub hb.2 (H _ _ _ _ hb.1)
theorem v0_go {A : SV → SMem → Prop} {off : Nat} {n : Nat} {cs : Array Value} {ty : TypeId} {QpL : Int → Array Value → Prop} {fs : List SFr} {m : SMem} (hpL : ∀ i' ts', QpL i' ts' → Good Tryd.prog A 1 (pL_F off n cs ty i' ts') (pL_M off n cs ty i' ts')) (hb : v0_x off n cs ty QpL fs m) : Good Tryd.prog A 1 fs m := by
  unfold v0_x at hb
  exact pL_good hpL hb
theorem vL_go {A : SV → SMem → Prop} {off : Nat} {n : Nat} {cs : Array Value} {ty : TypeId} {i : Int} {ts : Array Value} {QpE : Int → Array Value → Prop} {fs : List SFr} {m : SMem} (hpE : ∀ i' ts', QpE i' ts' → Good Tryd.prog A 1 (pE_F off n cs ty i' ts') (pE_M off n cs ty i' ts')) (hb : vL_x off n cs ty i ts QpE fs m) : Good Tryd.prog A 1 fs m := by
  unfold vL_x at hb
  exact pE_good hpE hb
theorem vN_go {A : SV → SMem → Prop} {off : Nat} {n : Nat} {cs : Array Value} {ty : TypeId} {i : Int} {ts : Array Value} {j : Int} {QpL : Int → Array Value → Prop} {fs : List SFr} {m : SMem} (hpL : ∀ i' ts', QpL i' ts' → Good Tryd.prog A 1 (pL_F off n cs ty i' ts') (pL_M off n cs ty i' ts')) (hb : vN_x off n cs ty i ts j QpL fs m) : Good Tryd.prog A 1 fs m := by
  unfold vN_x at hb
  exact pL_good hpL hb
theorem vF_go {A : SV → SMem → Prop} {off : Nat} {n : Nat} {cs : Array Value} {ty : TypeId} {r : Nat} {ks : Array Value} {i : Int} {ts : Array Value} {j : Int} {QpG : Int → Array Value → Int → Int → Prop} {QpL : Int → Array Value → Prop} {fs : List SFr} {m : SMem} (hpG : ∀ i' ts' j' c', QpG i' ts' j' c' → Good Tryd.prog A 1 (pG_F off n cs ty r ks i' ts' j' c') (pG_M off n cs ty r ks i' ts' j' c')) (hpL : ∀ i' ts', QpL i' ts' → Good Tryd.prog A 1 (pL_F off n cs ty i' ts') (pL_M off n cs ty i' ts')) (hb : vF_x off n cs ty r ks i ts j QpG QpL fs m) : Good Tryd.prog A 1 fs m := by
  unfold vF_x at hb
  split at hb
  · exact pG_good hpG hb
  exact pL_good hpL hb
theorem vG_go {A : SV → SMem → Prop} {off : Nat} {n : Nat} {cs : Array Value} {ty : TypeId} {r : Nat} {ks : Array Value} {i : Int} {ts : Array Value} {j : Int} {c : Int} {QpG : Int → Array Value → Int → Int → Prop} {QpF : Int → Array Value → Int → Prop} {fs : List SFr} {m : SMem} (hpG : ∀ i' ts' j' c', QpG i' ts' j' c' → Good Tryd.prog A 1 (pG_F off n cs ty r ks i' ts' j' c') (pG_M off n cs ty r ks i' ts' j' c')) (hpF : ∀ i' ts' j', QpF i' ts' j' → Good Tryd.prog A 1 (pF_F off n cs ty r ks i' ts' j') (pF_M off n cs ty r ks i' ts' j')) (hb : vG_x off n cs ty r ks i ts j c QpG QpF fs m) : Good Tryd.prog A 1 fs m := by
  unfold vG_x at hb
  split at hb
  · exact pG_good hpG hb
  exact pF_good hpF hb
end Go.Proofs.YtdopckcockgefaaDoor
/- Of cells: CellNeverStale: the law's states. -/
namespace Go.Proofs.YtdopckcockgefaaDoor
set_option maxRecDepth 100000
theorem v0F (off : Nat) (n : Nat) (cs : Array Value) (ty : TypeId) (Q : Int → Array Value → Prop) : (v0_t off n cs ty).vc (isB true) (v0_x off n cs ty Q) =
    ((decide ((↑n : Int) > (100 : Int)) = true → true = true) ∧ (decide ((↑n : Int) > (100 : Int)) = false → Q (0 : Int) zT ∧ CallKind.normal = CallKind.normal ∧ TodoOk (ren 1 [(1, 1)]) pL_d0 pL_d0 ∧ off = off ∧ n = n ∧ (0 : Int) = (0 : Int) ∧ ty = ty ∧ cs = cs ∧ (39 : TypeId) = (39 : Nat) ∧ zT = zT ∧ True)) := by kernel_rfl
theorem vZF (z : Nat) : (run EW 1000 1 [callFr 4 Tryd.f4.ntmps [eS] (Tryd.f4.body.getD .skip)] (mkM 1 [])).vc (isB true) (fun _ _ => False) =
    (true = true) := by kernel_rfl
theorem vLF (off : Nat) (n : Nat) (cs : Array Value) (ty : TypeId) (i : Int) (ts : Array Value) (Q : Int → Array Value → Prop) : (vL_t off n cs ty i ts).vc (isB true) (vL_x off n cs ty i ts Q) =
    ((decide (i < (↑n : Int)) = true → (((0 : Int) ≤ i ∧ i < (↑n : Int)) ∧ True) ∧ (IsInt IntKind.u8 cs (off + Int.toNat i * 5) ∧ IsInt IntKind.u32 cs (off + Int.toNat i * 5 + 1) ∧ IsInt IntKind.u32 cs (off + Int.toNat i * 5 + 2) ∧ IsInt IntKind.u32 cs (off + Int.toNat i * 5 + 3) ∧ IsInt IntKind.i64 cs (off + Int.toNat i * 5 + 4) ∧ True) ∧ ((intAt cs (off + Int.toNat i * 5) == (0 : Int)) = true → (Array.size ts = (448 : Nat) ∧ True) ∧ (FIn ts ∧ ((0 : Int) ≤ intAt cs (off + Int.toNat i * 5 + 1) ∧ intAt cs (off + Int.toNat i * 5 + 1) < (4294967296 : Int)) ∧ True) ∧ (decide (List.length (unT ts (intAt cs (off + Int.toNat i * 5 + 1))) = (0 : Nat)) = true → (Array.size ts = (448 : Nat) ∧ Array.size ts = Array.size ts ∧ True) ∧ Q i ts ∧ CallKind.normal = CallKind.normal ∧ TodoOk (ren 1 [(1, 1)]) pE_d0 pE_d0 ∧ off = off ∧ n = n ∧ i = i ∧ ty = ty ∧ cs = cs ∧ (39 : TypeId) = (39 : TypeId) ∧ ts = ts ∧ True) ∧ (decide (List.length (unT ts (intAt cs (off + Int.toNat i * 5 + 1))) = (0 : Nat)) = false → (Array.size (fellT ts (intAt cs (off + Int.toNat i * 5 + 1))) = (448 : Nat) ∧ Array.size (fellT ts (intAt cs (off + Int.toNat i * 5 + 1))) = Array.size ts ∧ True) ∧ Q i (fellT ts (intAt cs (off + Int.toNat i * 5 + 1))) ∧ CallKind.normal = CallKind.normal ∧ TodoOk (ren 1 [(1, 1)]) pE_d0 pE_d0 ∧ off = off ∧ n = n ∧ i = i ∧ ty = ty ∧ cs = cs ∧ (39 : TypeId) = (39 : TypeId) ∧ fellT ts (intAt cs (off + Int.toNat i * 5 + 1)) = fellT ts (intAt cs (off + Int.toNat i * 5 + 1)) ∧ True)) ∧ ((intAt cs (off + Int.toNat i * 5) == (0 : Int)) = false → ((intAt cs (off + Int.toNat i * 5) == (1 : Int)) = true → (Array.size ts = (448 : Nat) ∧ True) ∧ (FIn ts ∧ ((0 : Int) ≤ intAt cs (off + Int.toNat i * 5 + 1) ∧ intAt cs (off + Int.toNat i * 5 + 1) < (4294967296 : Int)) ∧ True) ∧ (Array.size (cutT ts (intAt cs (off + Int.toNat i * 5 + 1))) = (448 : Nat) ∧ Array.size (cutT ts (intAt cs (off + Int.toNat i * 5 + 1))) = Array.size ts ∧ True) ∧ Q i (cutT ts (intAt cs (off + Int.toNat i * 5 + 1))) ∧ CallKind.normal = CallKind.normal ∧ TodoOk (ren 1 [(1, 1)]) pE_d0 pE_d0 ∧ off = off ∧ n = n ∧ i = i ∧ ty = ty ∧ cs = cs ∧ (39 : TypeId) = (39 : TypeId) ∧ cutT ts (intAt cs (off + Int.toNat i * 5 + 1)) = cutT ts (intAt cs (off + Int.toNat i * 5 + 1)) ∧ True) ∧ ((intAt cs (off + Int.toNat i * 5) == (1 : Int)) = false → ((intAt cs (off + Int.toNat i * 5) == (2 : Int)) = true → (Array.size ts = (448 : Nat) ∧ True) ∧ (FIn ts ∧ ((0 : Int) ≤ intAt cs (off + Int.toNat i * 5 + 1) ∧ intAt cs (off + Int.toNat i * 5 + 1) < (4294967296 : Int)) ∧ ((0 : Int) ≤ intAt cs (off + Int.toNat i * 5 + 2) ∧ intAt cs (off + Int.toNat i * 5 + 2) < (4294967296 : Int)) ∧ True) ∧ (Array.size (grT ts (intAt cs (off + Int.toNat i * 5 + 1)) (intAt cs (off + Int.toNat i * 5 + 2))) = (448 : Nat) ∧ Array.size (grT ts (intAt cs (off + Int.toNat i * 5 + 1)) (intAt cs (off + Int.toNat i * 5 + 2))) = Array.size ts ∧ True) ∧ Q i (grT ts (intAt cs (off + Int.toNat i * 5 + 1)) (intAt cs (off + Int.toNat i * 5 + 2))) ∧ CallKind.normal = CallKind.normal ∧ TodoOk (ren 1 [(1, 1)]) pE_d0 pE_d0 ∧ off = off ∧ n = n ∧ i = i ∧ ty = ty ∧ cs = cs ∧ (39 : TypeId) = (39 : TypeId) ∧ grT ts (intAt cs (off + Int.toNat i * 5 + 1)) (intAt cs (off + Int.toNat i * 5 + 2)) = grT ts (intAt cs (off + Int.toNat i * 5 + 1)) (intAt cs (off + Int.toNat i * 5 + 2)) ∧ True) ∧ ((intAt cs (off + Int.toNat i * 5) == (2 : Int)) = false → ((intAt cs (off + Int.toNat i * 5) == (3 : Int)) = true → (Array.size ts = (448 : Nat) ∧ True) ∧ (FIn ts ∧ ((0 : Int) ≤ intAt cs (off + Int.toNat i * 5 + 1) ∧ intAt cs (off + Int.toNat i * 5 + 1) < (4294967296 : Int)) ∧ ((0 : Int) ≤ intAt cs (off + Int.toNat i * 5 + 3) ∧ intAt cs (off + Int.toNat i * 5 + 3) < (4294967296 : Int)) ∧ True) ∧ (Array.size (refT ts (intAt cs (off + Int.toNat i * 5 + 1)) (intAt cs (off + Int.toNat i * 5 + 4)) (intAt cs (off + Int.toNat i * 5 + 3)) false) = (448 : Nat) ∧ Array.size (refT ts (intAt cs (off + Int.toNat i * 5 + 1)) (intAt cs (off + Int.toNat i * 5 + 4)) (intAt cs (off + Int.toNat i * 5 + 3)) false) = (448 : Nat) ∧ True) ∧ (Array.size (refT ts (intAt cs (off + Int.toNat i * 5 + 1)) (intAt cs (off + Int.toNat i * 5 + 4)) (intAt cs (off + Int.toNat i * 5 + 3)) false) = (448 : Nat) ∧ True) ∧ (TbOk (refT ts (intAt cs (off + Int.toNat i * 5 + 1)) (intAt cs (off + Int.toNat i * 5 + 4)) (intAt cs (off + Int.toNat i * 5 + 3)) false) ∧ ((0 : Int) ≤ intAt cs (off + Int.toNat i * 5 + 1) ∧ intAt cs (off + Int.toNat i * 5 + 1) < (4294967296 : Int)) ∧ True) ∧ (((refE ts (intAt cs (off + Int.toNat i * 5 + 1)) (intAt cs (off + Int.toNat i * 5 + 4)) (intAt cs (off + Int.toNat i * 5 + 3)) false == (0 : Int)) == true) = true → (((intAt cs (off + Int.toNat i * 5 + 3) != (0 : Int)) == true) = true → (((derE (refT ts (intAt cs (off + Int.toNat i * 5 + 1)) (intAt cs (off + Int.toNat i * 5 + 4)) (intAt cs (off + Int.toNat i * 5 + 3)) false) (intAt cs (off + Int.toNat i * 5 + 1)) (intAt cs (off + Int.toNat i * 5 + 4)) != (0 : Int)) == false) = true → (((derT (refT ts (intAt cs (off + Int.toNat i * 5 + 1)) (intAt cs (off + Int.toNat i * 5 + 4)) (intAt cs (off + Int.toNat i * 5 + 3)) false) (intAt cs (off + Int.toNat i * 5 + 1)) (intAt cs (off + Int.toNat i * 5 + 4)) != intAt cs (off + Int.toNat i * 5 + 3)) == false) = true → (((refE ts (intAt cs (off + Int.toNat i * 5 + 1)) (intAt cs (off + Int.toNat i * 5 + 4)) (intAt cs (off + Int.toNat i * 5 + 3)) false == (0 : Int)) == true) = true → (((intAt cs (off + Int.toNat i * 5 + 3) == (0 : Int)) == true) = true → ((derE (refT ts (intAt cs (off + Int.toNat i * 5 + 1)) (intAt cs (off + Int.toNat i * 5 + 4)) (intAt cs (off + Int.toNat i * 5 + 3)) false) (intAt cs (off + Int.toNat i * 5 + 1)) (intAt cs (off + Int.toNat i * 5 + 4)) != (10 : Int)) = true → false = true) ∧ ((derE (refT ts (intAt cs (off + Int.toNat i * 5 + 1)) (intAt cs (off + Int.toNat i * 5 + 4)) (intAt cs (off + Int.toNat i * 5 + 3)) false) (intAt cs (off + Int.toNat i * 5 + 1)) (intAt cs (off + Int.toNat i * 5 + 4)) != (10 : Int)) = false → (Array.size (refT ts (intAt cs (off + Int.toNat i * 5 + 1)) (intAt cs (off + Int.toNat i * 5 + 4)) (intAt cs (off + Int.toNat i * 5 + 3)) false) = (448 : Nat) ∧ True) ∧ (Array.size (refT ts (intAt cs (off + Int.toNat i * 5 + 1)) (intAt cs (off + Int.toNat i * 5 + 4)) (intAt cs (off + Int.toNat i * 5 + 3)) false) = (448 : Nat) ∧ Array.size (refT ts (intAt cs (off + Int.toNat i * 5 + 1)) (intAt cs (off + Int.toNat i * 5 + 4)) (intAt cs (off + Int.toNat i * 5 + 3)) false) = Array.size ts ∧ True) ∧ Q i (refT ts (intAt cs (off + Int.toNat i * 5 + 1)) (intAt cs (off + Int.toNat i * 5 + 4)) (intAt cs (off + Int.toNat i * 5 + 3)) false) ∧ CallKind.normal = CallKind.normal ∧ TodoOk (ren 1 [(1, 1)]) pE_d0 pE_d0 ∧ off = off ∧ n = n ∧ i = i ∧ ty = ty ∧ cs = cs ∧ (39 : TypeId) = (39 : TypeId) ∧ refT ts (intAt cs (off + Int.toNat i * 5 + 1)) (intAt cs (off + Int.toNat i * 5 + 4)) (intAt cs (off + Int.toNat i * 5 + 3)) false = refT ts (intAt cs (off + Int.toNat i * 5 + 1)) (intAt cs (off + Int.toNat i * 5 + 4)) (intAt cs (off + Int.toNat i * 5 + 3)) false ∧ True)) ∧ (((intAt cs (off + Int.toNat i * 5 + 3) == (0 : Int)) == true) = false → (Array.size (refT ts (intAt cs (off + Int.toNat i * 5 + 1)) (intAt cs (off + Int.toNat i * 5 + 4)) (intAt cs (off + Int.toNat i * 5 + 3)) false) = (448 : Nat) ∧ True) ∧ (Array.size (refT ts (intAt cs (off + Int.toNat i * 5 + 1)) (intAt cs (off + Int.toNat i * 5 + 4)) (intAt cs (off + Int.toNat i * 5 + 3)) false) = (448 : Nat) ∧ Array.size (refT ts (intAt cs (off + Int.toNat i * 5 + 1)) (intAt cs (off + Int.toNat i * 5 + 4)) (intAt cs (off + Int.toNat i * 5 + 3)) false) = Array.size ts ∧ True) ∧ Q i (refT ts (intAt cs (off + Int.toNat i * 5 + 1)) (intAt cs (off + Int.toNat i * 5 + 4)) (intAt cs (off + Int.toNat i * 5 + 3)) false) ∧ CallKind.normal = CallKind.normal ∧ TodoOk (ren 1 [(1, 1)]) pE_d0 pE_d0 ∧ off = off ∧ n = n ∧ i = i ∧ ty = ty ∧ cs = cs ∧ (39 : TypeId) = (39 : TypeId) ∧ refT ts (intAt cs (off + Int.toNat i * 5 + 1)) (intAt cs (off + Int.toNat i * 5 + 4)) (intAt cs (off + Int.toNat i * 5 + 3)) false = refT ts (intAt cs (off + Int.toNat i * 5 + 1)) (intAt cs (off + Int.toNat i * 5 + 4)) (intAt cs (off + Int.toNat i * 5 + 3)) false ∧ True)) ∧ (((refE ts (intAt cs (off + Int.toNat i * 5 + 1)) (intAt cs (off + Int.toNat i * 5 + 4)) (intAt cs (off + Int.toNat i * 5 + 3)) false == (0 : Int)) == true) = false → (Array.size (refT ts (intAt cs (off + Int.toNat i * 5 + 1)) (intAt cs (off + Int.toNat i * 5 + 4)) (intAt cs (off + Int.toNat i * 5 + 3)) false) = (448 : Nat) ∧ True) ∧ (Array.size (refT ts (intAt cs (off + Int.toNat i * 5 + 1)) (intAt cs (off + Int.toNat i * 5 + 4)) (intAt cs (off + Int.toNat i * 5 + 3)) false) = (448 : Nat) ∧ Array.size (refT ts (intAt cs (off + Int.toNat i * 5 + 1)) (intAt cs (off + Int.toNat i * 5 + 4)) (intAt cs (off + Int.toNat i * 5 + 3)) false) = Array.size ts ∧ True) ∧ Q i (refT ts (intAt cs (off + Int.toNat i * 5 + 1)) (intAt cs (off + Int.toNat i * 5 + 4)) (intAt cs (off + Int.toNat i * 5 + 3)) false) ∧ CallKind.normal = CallKind.normal ∧ TodoOk (ren 1 [(1, 1)]) pE_d0 pE_d0 ∧ off = off ∧ n = n ∧ i = i ∧ ty = ty ∧ cs = cs ∧ (39 : TypeId) = (39 : TypeId) ∧ refT ts (intAt cs (off + Int.toNat i * 5 + 1)) (intAt cs (off + Int.toNat i * 5 + 4)) (intAt cs (off + Int.toNat i * 5 + 3)) false = refT ts (intAt cs (off + Int.toNat i * 5 + 1)) (intAt cs (off + Int.toNat i * 5 + 4)) (intAt cs (off + Int.toNat i * 5 + 3)) false ∧ True)) ∧ (((derT (refT ts (intAt cs (off + Int.toNat i * 5 + 1)) (intAt cs (off + Int.toNat i * 5 + 4)) (intAt cs (off + Int.toNat i * 5 + 3)) false) (intAt cs (off + Int.toNat i * 5 + 1)) (intAt cs (off + Int.toNat i * 5 + 4)) != intAt cs (off + Int.toNat i * 5 + 3)) == false) = false → false = true)) ∧ (((derE (refT ts (intAt cs (off + Int.toNat i * 5 + 1)) (intAt cs (off + Int.toNat i * 5 + 4)) (intAt cs (off + Int.toNat i * 5 + 3)) false) (intAt cs (off + Int.toNat i * 5 + 1)) (intAt cs (off + Int.toNat i * 5 + 4)) != (0 : Int)) == false) = false → false = true)) ∧ (((intAt cs (off + Int.toNat i * 5 + 3) != (0 : Int)) == true) = false → (((refE ts (intAt cs (off + Int.toNat i * 5 + 1)) (intAt cs (off + Int.toNat i * 5 + 4)) (intAt cs (off + Int.toNat i * 5 + 3)) false == (0 : Int)) == true) = true → (((intAt cs (off + Int.toNat i * 5 + 3) == (0 : Int)) == true) = true → ((derE (refT ts (intAt cs (off + Int.toNat i * 5 + 1)) (intAt cs (off + Int.toNat i * 5 + 4)) (intAt cs (off + Int.toNat i * 5 + 3)) false) (intAt cs (off + Int.toNat i * 5 + 1)) (intAt cs (off + Int.toNat i * 5 + 4)) != (10 : Int)) = true → false = true) ∧ ((derE (refT ts (intAt cs (off + Int.toNat i * 5 + 1)) (intAt cs (off + Int.toNat i * 5 + 4)) (intAt cs (off + Int.toNat i * 5 + 3)) false) (intAt cs (off + Int.toNat i * 5 + 1)) (intAt cs (off + Int.toNat i * 5 + 4)) != (10 : Int)) = false → (Array.size (refT ts (intAt cs (off + Int.toNat i * 5 + 1)) (intAt cs (off + Int.toNat i * 5 + 4)) (intAt cs (off + Int.toNat i * 5 + 3)) false) = (448 : Nat) ∧ True) ∧ (Array.size (refT ts (intAt cs (off + Int.toNat i * 5 + 1)) (intAt cs (off + Int.toNat i * 5 + 4)) (intAt cs (off + Int.toNat i * 5 + 3)) false) = (448 : Nat) ∧ Array.size (refT ts (intAt cs (off + Int.toNat i * 5 + 1)) (intAt cs (off + Int.toNat i * 5 + 4)) (intAt cs (off + Int.toNat i * 5 + 3)) false) = Array.size ts ∧ True) ∧ Q i (refT ts (intAt cs (off + Int.toNat i * 5 + 1)) (intAt cs (off + Int.toNat i * 5 + 4)) (intAt cs (off + Int.toNat i * 5 + 3)) false) ∧ CallKind.normal = CallKind.normal ∧ TodoOk (ren 1 [(1, 1)]) pE_d0 pE_d0 ∧ off = off ∧ n = n ∧ i = i ∧ ty = ty ∧ cs = cs ∧ (39 : TypeId) = (39 : TypeId) ∧ refT ts (intAt cs (off + Int.toNat i * 5 + 1)) (intAt cs (off + Int.toNat i * 5 + 4)) (intAt cs (off + Int.toNat i * 5 + 3)) false = refT ts (intAt cs (off + Int.toNat i * 5 + 1)) (intAt cs (off + Int.toNat i * 5 + 4)) (intAt cs (off + Int.toNat i * 5 + 3)) false ∧ True)) ∧ (((intAt cs (off + Int.toNat i * 5 + 3) == (0 : Int)) == true) = false → (Array.size (refT ts (intAt cs (off + Int.toNat i * 5 + 1)) (intAt cs (off + Int.toNat i * 5 + 4)) (intAt cs (off + Int.toNat i * 5 + 3)) false) = (448 : Nat) ∧ True) ∧ (Array.size (refT ts (intAt cs (off + Int.toNat i * 5 + 1)) (intAt cs (off + Int.toNat i * 5 + 4)) (intAt cs (off + Int.toNat i * 5 + 3)) false) = (448 : Nat) ∧ Array.size (refT ts (intAt cs (off + Int.toNat i * 5 + 1)) (intAt cs (off + Int.toNat i * 5 + 4)) (intAt cs (off + Int.toNat i * 5 + 3)) false) = Array.size ts ∧ True) ∧ Q i (refT ts (intAt cs (off + Int.toNat i * 5 + 1)) (intAt cs (off + Int.toNat i * 5 + 4)) (intAt cs (off + Int.toNat i * 5 + 3)) false) ∧ CallKind.normal = CallKind.normal ∧ TodoOk (ren 1 [(1, 1)]) pE_d0 pE_d0 ∧ off = off ∧ n = n ∧ i = i ∧ ty = ty ∧ cs = cs ∧ (39 : TypeId) = (39 : TypeId) ∧ refT ts (intAt cs (off + Int.toNat i * 5 + 1)) (intAt cs (off + Int.toNat i * 5 + 4)) (intAt cs (off + Int.toNat i * 5 + 3)) false = refT ts (intAt cs (off + Int.toNat i * 5 + 1)) (intAt cs (off + Int.toNat i * 5 + 4)) (intAt cs (off + Int.toNat i * 5 + 3)) false ∧ True)) ∧ (((refE ts (intAt cs (off + Int.toNat i * 5 + 1)) (intAt cs (off + Int.toNat i * 5 + 4)) (intAt cs (off + Int.toNat i * 5 + 3)) false == (0 : Int)) == true) = false → (Array.size (refT ts (intAt cs (off + Int.toNat i * 5 + 1)) (intAt cs (off + Int.toNat i * 5 + 4)) (intAt cs (off + Int.toNat i * 5 + 3)) false) = (448 : Nat) ∧ True) ∧ (Array.size (refT ts (intAt cs (off + Int.toNat i * 5 + 1)) (intAt cs (off + Int.toNat i * 5 + 4)) (intAt cs (off + Int.toNat i * 5 + 3)) false) = (448 : Nat) ∧ Array.size (refT ts (intAt cs (off + Int.toNat i * 5 + 1)) (intAt cs (off + Int.toNat i * 5 + 4)) (intAt cs (off + Int.toNat i * 5 + 3)) false) = Array.size ts ∧ True) ∧ Q i (refT ts (intAt cs (off + Int.toNat i * 5 + 1)) (intAt cs (off + Int.toNat i * 5 + 4)) (intAt cs (off + Int.toNat i * 5 + 3)) false) ∧ CallKind.normal = CallKind.normal ∧ TodoOk (ren 1 [(1, 1)]) pE_d0 pE_d0 ∧ off = off ∧ n = n ∧ i = i ∧ ty = ty ∧ cs = cs ∧ (39 : TypeId) = (39 : TypeId) ∧ refT ts (intAt cs (off + Int.toNat i * 5 + 1)) (intAt cs (off + Int.toNat i * 5 + 4)) (intAt cs (off + Int.toNat i * 5 + 3)) false = refT ts (intAt cs (off + Int.toNat i * 5 + 1)) (intAt cs (off + Int.toNat i * 5 + 4)) (intAt cs (off + Int.toNat i * 5 + 3)) false ∧ True))) ∧ (((refE ts (intAt cs (off + Int.toNat i * 5 + 1)) (intAt cs (off + Int.toNat i * 5 + 4)) (intAt cs (off + Int.toNat i * 5 + 3)) false == (0 : Int)) == true) = false → (((refE ts (intAt cs (off + Int.toNat i * 5 + 1)) (intAt cs (off + Int.toNat i * 5 + 4)) (intAt cs (off + Int.toNat i * 5 + 3)) false == (0 : Int)) == true) = true → (((intAt cs (off + Int.toNat i * 5 + 3) == (0 : Int)) == true) = true → ((derE (refT ts (intAt cs (off + Int.toNat i * 5 + 1)) (intAt cs (off + Int.toNat i * 5 + 4)) (intAt cs (off + Int.toNat i * 5 + 3)) false) (intAt cs (off + Int.toNat i * 5 + 1)) (intAt cs (off + Int.toNat i * 5 + 4)) != (10 : Int)) = true → false = true) ∧ ((derE (refT ts (intAt cs (off + Int.toNat i * 5 + 1)) (intAt cs (off + Int.toNat i * 5 + 4)) (intAt cs (off + Int.toNat i * 5 + 3)) false) (intAt cs (off + Int.toNat i * 5 + 1)) (intAt cs (off + Int.toNat i * 5 + 4)) != (10 : Int)) = false → (Array.size (refT ts (intAt cs (off + Int.toNat i * 5 + 1)) (intAt cs (off + Int.toNat i * 5 + 4)) (intAt cs (off + Int.toNat i * 5 + 3)) false) = (448 : Nat) ∧ True) ∧ (Array.size (refT ts (intAt cs (off + Int.toNat i * 5 + 1)) (intAt cs (off + Int.toNat i * 5 + 4)) (intAt cs (off + Int.toNat i * 5 + 3)) false) = (448 : Nat) ∧ Array.size (refT ts (intAt cs (off + Int.toNat i * 5 + 1)) (intAt cs (off + Int.toNat i * 5 + 4)) (intAt cs (off + Int.toNat i * 5 + 3)) false) = Array.size ts ∧ True) ∧ Q i (refT ts (intAt cs (off + Int.toNat i * 5 + 1)) (intAt cs (off + Int.toNat i * 5 + 4)) (intAt cs (off + Int.toNat i * 5 + 3)) false) ∧ CallKind.normal = CallKind.normal ∧ TodoOk (ren 1 [(1, 1)]) pE_d0 pE_d0 ∧ off = off ∧ n = n ∧ i = i ∧ ty = ty ∧ cs = cs ∧ (39 : TypeId) = (39 : TypeId) ∧ refT ts (intAt cs (off + Int.toNat i * 5 + 1)) (intAt cs (off + Int.toNat i * 5 + 4)) (intAt cs (off + Int.toNat i * 5 + 3)) false = refT ts (intAt cs (off + Int.toNat i * 5 + 1)) (intAt cs (off + Int.toNat i * 5 + 4)) (intAt cs (off + Int.toNat i * 5 + 3)) false ∧ True)) ∧ (((intAt cs (off + Int.toNat i * 5 + 3) == (0 : Int)) == true) = false → (Array.size (refT ts (intAt cs (off + Int.toNat i * 5 + 1)) (intAt cs (off + Int.toNat i * 5 + 4)) (intAt cs (off + Int.toNat i * 5 + 3)) false) = (448 : Nat) ∧ True) ∧ (Array.size (refT ts (intAt cs (off + Int.toNat i * 5 + 1)) (intAt cs (off + Int.toNat i * 5 + 4)) (intAt cs (off + Int.toNat i * 5 + 3)) false) = (448 : Nat) ∧ Array.size (refT ts (intAt cs (off + Int.toNat i * 5 + 1)) (intAt cs (off + Int.toNat i * 5 + 4)) (intAt cs (off + Int.toNat i * 5 + 3)) false) = Array.size ts ∧ True) ∧ Q i (refT ts (intAt cs (off + Int.toNat i * 5 + 1)) (intAt cs (off + Int.toNat i * 5 + 4)) (intAt cs (off + Int.toNat i * 5 + 3)) false) ∧ CallKind.normal = CallKind.normal ∧ TodoOk (ren 1 [(1, 1)]) pE_d0 pE_d0 ∧ off = off ∧ n = n ∧ i = i ∧ ty = ty ∧ cs = cs ∧ (39 : TypeId) = (39 : TypeId) ∧ refT ts (intAt cs (off + Int.toNat i * 5 + 1)) (intAt cs (off + Int.toNat i * 5 + 4)) (intAt cs (off + Int.toNat i * 5 + 3)) false = refT ts (intAt cs (off + Int.toNat i * 5 + 1)) (intAt cs (off + Int.toNat i * 5 + 4)) (intAt cs (off + Int.toNat i * 5 + 3)) false ∧ True)) ∧ (((refE ts (intAt cs (off + Int.toNat i * 5 + 1)) (intAt cs (off + Int.toNat i * 5 + 4)) (intAt cs (off + Int.toNat i * 5 + 3)) false == (0 : Int)) == true) = false → (Array.size (refT ts (intAt cs (off + Int.toNat i * 5 + 1)) (intAt cs (off + Int.toNat i * 5 + 4)) (intAt cs (off + Int.toNat i * 5 + 3)) false) = (448 : Nat) ∧ True) ∧ (Array.size (refT ts (intAt cs (off + Int.toNat i * 5 + 1)) (intAt cs (off + Int.toNat i * 5 + 4)) (intAt cs (off + Int.toNat i * 5 + 3)) false) = (448 : Nat) ∧ Array.size (refT ts (intAt cs (off + Int.toNat i * 5 + 1)) (intAt cs (off + Int.toNat i * 5 + 4)) (intAt cs (off + Int.toNat i * 5 + 3)) false) = Array.size ts ∧ True) ∧ Q i (refT ts (intAt cs (off + Int.toNat i * 5 + 1)) (intAt cs (off + Int.toNat i * 5 + 4)) (intAt cs (off + Int.toNat i * 5 + 3)) false) ∧ CallKind.normal = CallKind.normal ∧ TodoOk (ren 1 [(1, 1)]) pE_d0 pE_d0 ∧ off = off ∧ n = n ∧ i = i ∧ ty = ty ∧ cs = cs ∧ (39 : TypeId) = (39 : TypeId) ∧ refT ts (intAt cs (off + Int.toNat i * 5 + 1)) (intAt cs (off + Int.toNat i * 5 + 4)) (intAt cs (off + Int.toNat i * 5 + 3)) false = refT ts (intAt cs (off + Int.toNat i * 5 + 1)) (intAt cs (off + Int.toNat i * 5 + 4)) (intAt cs (off + Int.toNat i * 5 + 3)) false ∧ True))) ∧ ((intAt cs (off + Int.toNat i * 5) == (3 : Int)) = false → (Array.size ts = (448 : Nat) ∧ True) ∧ (FIn ts ∧ ((0 : Int) ≤ intAt cs (off + Int.toNat i * 5 + 1) ∧ intAt cs (off + Int.toNat i * 5 + 1) < (4294967296 : Int)) ∧ True) ∧ (Array.size (fnT ts (intAt cs (off + Int.toNat i * 5 + 1)) (intAt cs (off + Int.toNat i * 5 + 4))) = (448 : Nat) ∧ Array.size (fnT ts (intAt cs (off + Int.toNat i * 5 + 1)) (intAt cs (off + Int.toNat i * 5 + 4))) = Array.size ts ∧ True) ∧ Q i (fnT ts (intAt cs (off + Int.toNat i * 5 + 1)) (intAt cs (off + Int.toNat i * 5 + 4))) ∧ CallKind.normal = CallKind.normal ∧ TodoOk (ren 1 [(1, 1)]) pE_d0 pE_d0 ∧ off = off ∧ n = n ∧ i = i ∧ ty = ty ∧ cs = cs ∧ (39 : TypeId) = (39 : TypeId) ∧ fnT ts (intAt cs (off + Int.toNat i * 5 + 1)) (intAt cs (off + Int.toNat i * 5 + 4)) = fnT ts (intAt cs (off + Int.toNat i * 5 + 1)) (intAt cs (off + Int.toNat i * 5 + 4)) ∧ True))))) ∧ (decide (i < (↑n : Int)) = false → true = true)) := by kernel_rfl
theorem vEF (off : Nat) (n : Nat) (cs : Array Value) (ty : TypeId) (i : Int) (ts : Array Value) (r : Nat) (ks : Array Value) (QN QF : Int → Array Value → Int → Prop) : (stepT EL.go (run EL 1000) 1 (pE_F off n cs ty i ts) (pE_M off n cs ty i ts)).vc (isB true) (pNF off n cs ty r ks QN QF) =
    ((Array.size ts = (448 : Nat) ∧ True) ∧ (TbOk ts ∧ True) ∧ (decide (List.length (lvT ts) = (0 : Nat)) = true → QN i ts (0 : Int) ∧ CallKind.normal = CallKind.normal ∧ TodoOk (ren 1 [(1, 1)]) pN_d0 pN_d0 ∧ off = off ∧ n = n ∧ Value.slice none (0 : Nat) (0 : Nat) = Value.slice none (0 : Nat) (0 : Nat) ∧ i = i ∧ (0 : Int) = (0 : Int) ∧ ty = ty ∧ cs = cs ∧ (39 : TypeId) = (39 : TypeId) ∧ ts = ts ∧ True) ∧ (decide (List.length (lvT ts) = (0 : Nat)) = false → QF i ts (0 : Int) ∧ CallKind.normal = CallKind.normal ∧ TodoOk (ren 1 [(1, 1), (2, 2)]) pN_d0 pN_d0 ∧ off = off ∧ n = n ∧ r = List.length (lvT ts) ∧ i = i ∧ (0 : Int) = (0 : Int) ∧ ty = ty ∧ cs = cs ∧ (39 : TypeId) = (39 : TypeId) ∧ ts = ts ∧ (30 : TypeId) = (30 : TypeId) ∧ ks = u32s (lvT ts) ∧ True)) := by kernel_rfl
theorem vNF (off : Nat) (n : Nat) (cs : Array Value) (ty : TypeId) (i : Int) (ts : Array Value) (j : Int) (Q : Int → Array Value → Prop) : (vN_t off n cs ty i ts j).vc (isB true) (vN_x off n cs ty i ts j Q) =
    ((decide (j < (0 : Int)) = true → Q i ts ∧ CallKind.normal = CallKind.normal ∧ TodoOk (ren 1 [(1, 1)]) pL_d0 pG_d0 ∧ off = off ∧ n = n ∧ i = i ∧ ty = ty ∧ cs = cs ∧ (39 : TypeId) = (39 : TypeId) ∧ ts = ts ∧ True) ∧ (decide (j < (0 : Int)) = false → Q (ari BinOp.add IntKind.i64 i (1 : Int)) ts ∧ CallKind.normal = CallKind.normal ∧ TodoOk (ren 1 [(1, 1)]) pL_d0 pL_d0 ∧ off = off ∧ n = n ∧ ari BinOp.add IntKind.i64 i (1 : Int) = ari BinOp.add IntKind.i64 i (1 : Int) ∧ ty = ty ∧ cs = cs ∧ (39 : TypeId) = (39 : TypeId) ∧ ts = ts ∧ True)) := by kernel_rfl
theorem vFF (off : Nat) (n : Nat) (cs : Array Value) (ty : TypeId) (r : Nat) (ks : Array Value) (i : Int) (ts : Array Value) (j : Int) (QG : Int → Array Value → Int → Int → Prop) (QL : Int → Array Value → Prop) : (vF_t off n cs ty r ks i ts j).vc (isB true) (vF_x off n cs ty r ks i ts j QG QL) =
    ((decide (j < (↑r : Int)) = true → QG i ts j (0 : Int) ∧ CallKind.normal = CallKind.normal ∧ TodoOk (ren 1 [(1, 1), (2, 2)]) pG_d0 pG_d0 ∧ off = off ∧ n = n ∧ r = r ∧ (0 : Int) = (0 : Int) ∧ i = i ∧ j = j ∧ ty = ty ∧ cs = cs ∧ (39 : TypeId) = (39 : TypeId) ∧ ts = ts ∧ (30 : TypeId) = (30 : TypeId) ∧ ks = ks ∧ True) ∧ (decide (j < (↑r : Int)) = false → QL (ari BinOp.add IntKind.i64 i (1 : Int)) ts ∧ CallKind.normal = CallKind.normal ∧ TodoOk (ren 1 [(1, 1)]) pL_d0 pL_d0 ∧ off = off ∧ n = n ∧ ari BinOp.add IntKind.i64 i (1 : Int) = ari BinOp.add IntKind.i64 i (1 : Int) ∧ ty = ty ∧ cs = cs ∧ (39 : TypeId) = (39 : TypeId) ∧ ts = ts ∧ True)) := by kernel_rfl
theorem vGF (off : Nat) (n : Nat) (cs : Array Value) (ty : TypeId) (r : Nat) (ks : Array Value) (i : Int) (ts : Array Value) (j c : Int) (QG : Int → Array Value → Int → Int → Prop) (QF : Int → Array Value → Int → Prop) : (vG_t off n cs ty r ks i ts j c).vc (isB true) (vG_x off n cs ty r ks i ts j c QG QF) =
    ((decide (c < (8 : Int)) = true → (Array.size ts = (448 : Nat) ∧ True) ∧ (((0 : Int) ≤ j ∧ j < (↑r : Int)) ∧ True) ∧ (IsInt IntKind.u32 ks ((0 : Nat) + Int.toNat j * 1) ∧ True) ∧ (TbOk ts ∧ ((0 : Int) ≤ intAt ks ((0 : Nat) + Int.toNat j * 1) ∧ intAt ks ((0 : Nat) + Int.toNat j * 1) < (4294967296 : Int)) ∧ True) ∧ (((derE ts (intAt ks ((0 : Nat) + Int.toNat j * 1)) c != (10 : Int)) == true) = true → (((derE ts (intAt ks ((0 : Nat) + Int.toNat j * 1)) c != (0 : Int)) == false) = true → (Array.size ts = (448 : Nat) ∧ True) ∧ (((0 : Int) ≤ j ∧ j < (↑r : Int)) ∧ True) ∧ (IsInt IntKind.u32 ks ((0 : Nat) + Int.toNat j * 1) ∧ True) ∧ (FIn ts ∧ ((0 : Int) ≤ intAt ks ((0 : Nat) + Int.toNat j * 1) ∧ intAt ks ((0 : Nat) + Int.toNat j * 1) < (4294967296 : Int)) ∧ True) ∧ ((!outF ts (derT ts (intAt ks ((0 : Nat) + Int.toNat j * 1)) c) (intAt ks ((0 : Nat) + Int.toNat j * 1))) = true → false = true) ∧ ((!outF ts (derT ts (intAt ks ((0 : Nat) + Int.toNat j * 1)) c) (intAt ks ((0 : Nat) + Int.toNat j * 1))) = false → QG i ts j (ari BinOp.add IntKind.i64 c (1 : Int)) ∧ CallKind.normal = CallKind.normal ∧ TodoOk (ren 1 [(1, 1), (2, 2)]) pG_d0 pG_d0 ∧ off = off ∧ n = n ∧ r = r ∧ ari BinOp.add IntKind.i64 c (1 : Int) = ari BinOp.add IntKind.i64 c (1 : Int) ∧ i = i ∧ j = j ∧ ty = ty ∧ cs = cs ∧ (39 : TypeId) = (39 : TypeId) ∧ ts = ts ∧ (30 : TypeId) = (30 : TypeId) ∧ ks = ks ∧ True)) ∧ (((derE ts (intAt ks ((0 : Nat) + Int.toNat j * 1)) c != (0 : Int)) == false) = false → false = true)) ∧ (((derE ts (intAt ks ((0 : Nat) + Int.toNat j * 1)) c != (10 : Int)) == true) = false → QG i ts j (ari BinOp.add IntKind.i64 c (1 : Int)) ∧ CallKind.normal = CallKind.normal ∧ TodoOk (ren 1 [(1, 1), (2, 2)]) pG_d0 pG_d0 ∧ off = off ∧ n = n ∧ r = r ∧ ari BinOp.add IntKind.i64 c (1 : Int) = ari BinOp.add IntKind.i64 c (1 : Int) ∧ i = i ∧ j = j ∧ ty = ty ∧ cs = cs ∧ (39 : TypeId) = (39 : TypeId) ∧ ts = ts ∧ (30 : TypeId) = (30 : TypeId) ∧ ks = ks ∧ True)) ∧ (decide (c < (8 : Int)) = false → QF i ts (ari BinOp.add IntKind.i64 j (1 : Int)) ∧ CallKind.normal = CallKind.normal ∧ TodoOk (ren 1 [(1, 1), (2, 2)]) pN_d0 pN_d0 ∧ off = off ∧ n = n ∧ r = r ∧ i = i ∧ ari BinOp.add IntKind.i64 j (1 : Int) = ari BinOp.add IntKind.i64 j (1 : Int) ∧ ty = ty ∧ cs = cs ∧ (39 : TypeId) = (39 : TypeId) ∧ ts = ts ∧ (30 : TypeId) = (30 : TypeId) ∧ ks = ks ∧ True)) := by kernel_rfl
end Go.Proofs.YtdopckcockgefaaDoor
/- Of token: the closed test. No condition. -/
namespace Go.Proofs.YtdopckcockgefaaDoor
set_option maxRecDepth 1000000 in
theorem wakes_fast : (runC E0 200000 0 [callFr 5 Tryd.f5.ntmps [] (Tryd.f5.body.getD .skip)] ⟨0, .nil, []⟩).allTrue = true := by kernel_rfl
theorem wakes_true : (run E0 200000 0 [callFr 5 Tryd.f5.ntmps [] (Tryd.f5.body.getD .skip)] ⟨0, .nil, []⟩).allTrue = true := by
  rw [← runC_eq]
  exact wakes_fast
theorem wakes_fn : E0.fn 5 = some Tryd.f5 := by kernel_rfl
theorem wakes_body : Tryd.f5.body = some (Tryd.f5.body.getD .skip) := by kernel_rfl
theorem wakes_con (m : SMem) : Con E0 5 [] m (needs [] (.ret (sB (.l true)) m)) :=
  Con.pure E0_ok wakes_fn wakes_body (by kernel_rfl) (by kernel_rfl) fun _ => good_true E0_ok wakes_true
end Go.Proofs.YtdopckcockgefaaDoor
/- Of cells: CellNeverStale: its runs end with true. No condition. -/
namespace Go.Proofs.YtdopckcockgefaaDoor
set_option maxRecDepth 100000
set_option linter.unusedSimpArgs false
set_option linter.unusedVariables false
theorem conT7_ok : ∀ g l m t, conT7 g l m = some t → Con E0 g l m t := by
  intro g l m t h
  unfold conT7 at h
  split at h
  · cases h; exact wakes_con m
  · rename_i ts r c to fi; cases h
    refine Con.asked fun hq => Con.args (l' := [tbS ts, u32 r.den, i64 (.o c.den), u32 to.den, sB (.o fi.den)]) (fun R vs ha => by
      match vs, ha with
      | [v, w, z, y, u], ha => exact ⟨ha.1, ha.2.1, ha.2.2.1, ha.2.2.2.1, ha.2.2.2.2.1, trivial⟩) ?_
    intro A hs
    exact ref_con r.den c.den to.den fi.den m A ⟨fun p hp => hq p hp, hs⟩
  · rename_i ts r c; cases h
    refine Con.asked fun hq => Con.args (l' := [tbS ts, u32 r.den, i64 (.o c.den)]) (fun R vs ha => by
      match vs, ha with
      | [v, w, z], ha => exact ⟨ha.1, ha.2.1, ha.2.2.1, trivial⟩) ?_
    intro A hs
    exact der_con r.den c.den m A ⟨fun p hp => hq p hp, hs⟩
  · exact conT6_ok _ _ _ _ h
theorem EL_ok : EnvOk EL := EnvOk.with E0_ok _ _ conT7_ok
theorem EW_ok : EnvOk EW := EnvOk.with E0_ok _ _ conT7_ok
theorem pNF_good {off n r : Nat} {cs ks : Array Value} {ty : TypeId} {A : SV → SMem → Prop} {QN QF : Int → Array Value → Int → Prop} {fs : List SFr} {m : SMem} (hN : ∀ i ts j, QN i ts j → Good Tryd.prog A 1 (pN_F off n cs ty i ts j) (pN_M off n cs ty i ts j)) (hF : ∀ i ts j, QF i ts j → Good Tryd.prog A 1 (pF_F off n cs ty r ks i ts j) (pF_M off n cs ty r ks i ts j)) (hb : pNF off n cs ty r ks QN QF fs m) : Good Tryd.prog A 1 fs m := by
  unfold pNF at hb
  split at hb
  · split at hb
    · exact pF_good hF hb
    · exact pN_good hN hb
  · exact hb.elim
def ActOk (cs : Array Value) (p : Nat) : Prop := IsInt .u8 cs p ∧ IsInt .u32 cs (p + 1) ∧ IsInt .u32 cs (p + 2) ∧ IsInt .u32 cs (p + 3) ∧ IsInt .i64 cs (p + 4) ∧ (0 ≤ intAt cs p ∧ intAt cs p ≤ 255) ∧ inH (intAt cs (p + 1)) ∧ inH (intAt cs (p + 2)) ∧ inH (intAt cs (p + 3))
def ActsOk (cs : Array Value) (off n : Nat) : Prop := ∀ i, i < n → ActOk cs (off + i * 5)
section
variable {ts : Array Value} {cs : Array Value} {off n : Nat} {ty : TypeId}
theorem pG_ok {i j : Nat} (hv : FC ts) (hj : j < (lvT ts).length) (hF : Good Tryd.prog (isB true) 1 (pF_F off n cs ty (lvT ts).length (u32s (lvT ts)) (i : Int) ts ((j + 1 : Nat) : Int)) (pF_M off n cs ty (lvT ts).length (u32s (lvT ts)) (i : Int) ts ((j + 1 : Nat) : Int))) : ∀ (w c : Nat), c + w = 8 → Good Tryd.prog (isB true) 1 (pG_F off n cs ty (lvT ts).length (u32s (lvT ts)) (i : Int) ts (j : Int) (c : Int)) (pG_M off n cs ty (lvT ts).length (u32s (lvT ts)) (i : Int) ts (j : Int) (c : Int)) := by
  have hf := hv.v.f
  have hb := hf.ok
  have hs := hb.sz
  have hlen := lv_len ts
  have hm := lv_at hb hj
  have hg := (lv_mem hb).1 hm
  have g1 : IsInt .u32 (u32s (lvT ts)) j := isI_of (u32s_at hj)
  have g2 : intAt (u32s (lvT ts)) j = (lvT ts).getD j 0 := intAt_of (u32s_at hj)
  have hx : 0 ≤ (lvT ts).getD j 0 ∧ (lvT ts).getD j 0 < 4294967296 := lv_in hb (.inr hm)
  have y0 : 0 ≤ (j : Int) := by omega
  have y1 : (j : Int) < ((lvT ts).length : Int) := by omega
  intro w
  induction w with
  | zero =>
    intro c hc
    obtain rfl : c = 8 := by omega
    refine past_vc EL_ok 1000 (vGF off n cs ty _ _ (i : Int) ts (j : Int) _ (fun _ _ _ _ => False) (fun i' us j' => i' = (i : Int) ∧ us = ts ∧ j' = ((j + 1 : Nat) : Int))) ?_ (fun _ _ h => h) (fun fs m hb => vG_go (fun _ _ _ _ h => h.elim) (fun i' us j' ⟨e1, e2, e3⟩ => by rw [e1, e2, e3]; exact hF) hb)
    have d : decide (((8 : Nat) : Int) < 8) = false := decide_eq_false (by omega)
    have ej : ari .add .i64 (j : Int) 1 = ((j + 1 : Nat) : Int) := by rw [ari_add, i64_in' (by omega) (by omega)]; omega
    simp only [d, ej, true_implies, Bool.true_eq_false, Bool.false_eq_true, false_implies, and_true, true_and, pF_d0_ok, pN_d0_ok]
  | succ w ih =>
    intro c hc
    have hc' : c < 8 := by omega
    refine past_vc EL_ok 1000 (vGF off n cs ty _ _ (i : Int) ts (j : Int) (c : Int) (fun i' us j' c' => i' = (i : Int) ∧ us = ts ∧ j' = (j : Int) ∧ c' = ((c + 1 : Nat) : Int)) (fun _ _ _ => False)) ?_ (fun _ _ h => h) (fun fs m hb => vG_go (fun i' us j' c' ⟨e1, e2, e3, e4⟩ => by rw [e1, e2, e3, e4]; exact ih (c + 1) (by omega)) (fun _ _ _ h => h.elim) hb)
    have d : decide ((c : Int) < 8) = true := decide_eq_true (by omega)
    have ec : ari .add .i64 (c : Int) 1 = ((c + 1 : Nat) : Int) := by rw [ari_add, i64_in' (by omega) (by omega)]; omega
    have d10 : ((10 : Int) != 10) = false := rfl
    have d0 : ((0 : Int) != 10) = true := rfl
    have d00 : ((0 : Int) != 0) = false := rfl
    rcases FC_der hv hg hc' with e | ⟨e, ho⟩
    · simp only [Int.toNat_natCast, Nat.mul_one, Nat.zero_add, d, ec, g1, g2, hx, y0, y1, e, d10, d0, d00, hs, hb, hf, beqT, beqF, Bool.not_true, Bool.not_false, decide_true, true_implies, Bool.true_eq_false, Bool.false_eq_true, false_implies, and_true, true_and, pG_d0_ok]
    · simp only [Int.toNat_natCast, Nat.mul_one, Nat.zero_add, d, ec, g1, g2, hx, y0, y1, e, ho, d10, d0, d00, hs, hb, hf, beqT, beqF, Bool.not_true, Bool.not_false, decide_true, true_implies, Bool.true_eq_false, Bool.false_eq_true, false_implies, and_true, true_and, pG_d0_ok]
theorem pF_ok {i : Nat} (hi : i < 100) (hv : FC ts) (hL : Good Tryd.prog (isB true) 1 (pL_F off n cs ty ((i + 1 : Nat) : Int) ts) (pL_M off n cs ty ((i + 1 : Nat) : Int) ts)) : ∀ (w j : Nat), j + w = (lvT ts).length → Good Tryd.prog (isB true) 1 (pF_F off n cs ty (lvT ts).length (u32s (lvT ts)) (i : Int) ts (j : Int)) (pF_M off n cs ty (lvT ts).length (u32s (lvT ts)) (i : Int) ts (j : Int)) := by
  intro w
  induction w with
  | zero =>
    intro j hj
    obtain rfl : j = (lvT ts).length := by omega
    refine past_vc EL_ok 1000 (vFF off n cs ty _ _ (i : Int) ts _ (fun _ _ _ _ => False) (fun i' us => i' = ((i + 1 : Nat) : Int) ∧ us = ts)) ?_ (fun _ _ h => h) (fun fs m hb => vF_go (fun _ _ _ _ h => h.elim) (fun i' us ⟨e1, e2⟩ => by rw [e1, e2]; exact hL) hb)
    have d : decide (((lvT ts).length : Int) < ((lvT ts).length : Int)) = false := decide_eq_false (by omega)
    have ei : ari .add .i64 (i : Int) 1 = ((i + 1 : Nat) : Int) := by rw [ari_add, i64_in' (by omega) (by omega)]; omega
    simp only [d, ei, true_implies, Bool.true_eq_false, Bool.false_eq_true, false_implies, and_true, true_and, pL_d0_ok]
  | succ w ih =>
    intro j hj
    have hj' : j < (lvT ts).length := by omega
    refine past_vc EL_ok 1000 (vFF off n cs ty _ _ (i : Int) ts (j : Int) (fun i' us j' c' => i' = (i : Int) ∧ us = ts ∧ j' = (j : Int) ∧ c' = ((0 : Nat) : Int)) (fun _ _ => False)) ?_ (fun _ _ h => h) (fun fs m hb => vF_go (fun i' us j' c' ⟨e1, e2, e3, e4⟩ => by rw [e1, e2, e3, e4]; exact pG_ok hv hj' (ih (j + 1) (by omega)) 8 0 (by omega)) (fun _ _ h => h.elim) hb)
    have d : decide ((j : Int) < ((lvT ts).length : Int)) = true := decide_eq_true (by omega)
    simp only [d, true_implies, Bool.true_eq_false, Bool.false_eq_true, false_implies, and_true, true_and, pG_d0_ok]
    rfl
theorem pE_ok {i : Nat} (hi : i < 100) (hv : FC ts) (hL : Good Tryd.prog (isB true) 1 (pL_F off n cs ty ((i + 1 : Nat) : Int) ts) (pL_M off n cs ty ((i + 1 : Nat) : Int) ts)) : Good Tryd.prog (isB true) 1 (pE_F off n cs ty (i : Int) ts) (pE_M off n cs ty (i : Int) ts) := by
  have hb := hv.v.f.ok
  have hs := hb.sz
  refine past_vc EL_ok 1000 (vEF off n cs ty (i : Int) ts (lvT ts).length (u32s (lvT ts)) (fun i' us j => i' = (i : Int) ∧ us = ts ∧ j = 0) (fun i' us j => i' = (i : Int) ∧ us = ts ∧ j = ((0 : Nat) : Int))) ?_ (fun _ _ h => h) (fun fs m hb => pNF_good (fun i' us j ⟨e1, e2, e3⟩ => ?_) (fun i' us j ⟨e1, e2, e3⟩ => by rw [e1, e2, e3]; exact pF_ok hi hv hL _ 0 (Nat.zero_add _)) hb)
  · simp only [hs, hb, true_implies, Bool.true_eq_false, Bool.false_eq_true, false_implies, and_true, true_and, pN_d0_ok, pF_d0_ok]
    repeat' first | exact trivial | exact rfl | exact pN_d0_ok _ | exact pF_d0_ok _ | apply And.intro | intro _
  · rw [e1, e2, e3]
    refine past_vc EL_ok 1000 (vNF off n cs ty (i : Int) ts 0 (fun i' us => i' = ((i + 1 : Nat) : Int) ∧ us = ts)) ?_ (fun _ _ h => h) (fun fs m hb => vN_go (fun i' us ⟨e1, e2⟩ => by rw [e1, e2]; exact hL) hb)
    have d : decide ((0 : Int) < 0) = false := rfl
    have ei : ari .add .i64 (i : Int) 1 = ((i + 1 : Nat) : Int) := by rw [ari_add, i64_in' (by omega) (by omega)]; omega
    simp only [d, ei, true_implies, Bool.true_eq_false, Bool.false_eq_true, false_implies, and_true, true_and, pL_d0_ok]
theorem rounds (ha : ActsOk cs off n) (hn : n ≤ 100) : ∀ (m i : Nat) (ts : Array Value), i + m = n → FC ts → Good Tryd.prog (isB true) 1 (pL_F off n cs ty (i : Int) ts) (pL_M off n cs ty (i : Int) ts) := by
  intro m
  induction m with
  | zero =>
    intro i ts hi hv
    obtain rfl : i = n := by omega
    refine past_vc EL_ok 1000 (vLF off i cs ty (i : Int) ts (fun _ _ => False)) ?_ (fun _ _ h => h) (fun fs m hb => vL_go (fun _ _ h => h.elim) hb)
    have d : decide ((i : Int) < (i : Int)) = false := decide_eq_false (by omega)
    simp only [d, true_implies, Bool.true_eq_false, Bool.false_eq_true, false_implies, and_true, true_and]
  | succ m ih =>
    intro i ts hi hv
    have hf := hv.v.f
    have hb := hf.ok
    have hs := hb.sz
    have hi' : i < n := by omega
    obtain ⟨a0, a1, a2, a3, a4, b0, b1, b2, b3⟩ := ha i hi'
    have next : ∀ us, FC us → Good Tryd.prog (isB true) 1 (pE_F off n cs ty (i : Int) us) (pE_M off n cs ty (i : Int) us) := fun us hu => pE_ok (by omega) hu (ih (i + 1) us (by omega) hu)
    have d : decide ((i : Int) < (n : Int)) = true := decide_eq_true (by omega)
    have y0 : 0 ≤ (i : Int) := by omega
    have y1 : (i : Int) < (n : Int) := by omega
    generalize eh : intAt cs (off + i * 5 + 1) = h at *
    generalize ed : intAt cs (off + i * 5) = dd at *
    generalize eb : intAt cs (off + i * 5 + 2) = bb at *
    generalize ec : intAt cs (off + i * 5 + 3) = cc at *
    generalize eq : intAt cs (off + i * 5 + 4) = qq at *
    refine past_vc EL_ok 1000 (vLF off n cs ty (i : Int) ts (fun i' us => i' = (i : Int) ∧ FC us)) ?_ (fun _ _ h => h) (fun fs m hb => vL_go (fun i' us ⟨e1, e2⟩ => by rw [e1]; exact next us e2) hb)
    simp only [Int.toNat_natCast, eh, ed, eb, ec, eq]
    have b1' : 0 ≤ h ∧ h < 4294967296 := b1
    have b2' : 0 ≤ bb ∧ bb < 4294967296 := b2
    have b3' : 0 ≤ cc ∧ cc < 4294967296 := b3
    cases d0 : (dd == 0) with
    | true =>
      cases hg : gdF ts h with
      | false =>
        have eU : unT ts h = [] := by unfold unT; rw [hg]; rfl
        have d2 : decide ((unT ts h).length = 0) = true := by rw [eU]; rfl
        simp only [d, d0, d2, a0, a1, a2, a3, a4, b1', y0, y1, hs, hf, hv, decide_true, true_implies, Bool.true_eq_false, Bool.false_eq_true, false_implies, and_true, true_and, pE_d0_ok]
      | true =>
        have hl := (lv_mem hb).2 hg
        have eU : unT ts h = UNL ts h := if_pos hg
        have d2 : decide ((unT ts h).length = 0) = false := by rw [eU, unl_cons hf hl]; rfl
        have hF := FC_fell hv hg
        have hs2 := hF.v.f.ok.sz
        simp only [d, d0, d2, a0, a1, a2, a3, a4, b1', y0, y1, hs, hs2, hF, hf, hv, decide_true, true_implies, Bool.true_eq_false, Bool.false_eq_true, false_implies, and_true, true_and, pE_d0_ok]
    | false =>
      cases d1 : (dd == 1) with
      | true =>
        have hF := FC_cut hv h
        have hs2 := hF.v.f.ok.sz
        simp only [d, d0, d1, a0, a1, a2, a3, a4, b1', y0, y1, hs, hs2, hF, hf, hv, decide_true, true_implies, Bool.true_eq_false, Bool.false_eq_true, false_implies, and_true, true_and, pE_d0_ok]
      | false =>
        cases d2 : (dd == 2) with
        | true =>
          have hF := FC_graft (h := h) hv b2
          have hs2 := hF.v.f.ok.sz
          simp only [d, d0, d1, d2, a0, a1, a2, a3, a4, b1', b2', y0, y1, hs, hs2, hF, hf, hv, decide_true, true_implies, Bool.true_eq_false, Bool.false_eq_true, false_implies, and_true, true_and, pE_d0_ok]
        | false =>
          cases d3 : (dd == 3) with
          | true =>
            obtain ⟨hF, hD⟩ := FC_ref (r := h) (c := qq) hv b3
            have hs2 := hF.v.f.ok.sz
            have hb2 := hF.v.f.ok
            by_cases hE : refE ts h qq cc false = 0
            · have dE : (refE ts h qq cc false == 0) = true := beq_iff_eq.2 hE
              obtain ⟨hD1, hD2⟩ := hD hE
              by_cases hz : cc = 0
              · have z1 : (cc != 0) = false := by rw [hz]; rfl
                have z2 : (cc == 0) = true := beq_iff_eq.2 hz
                rw [if_pos hz] at hD1
                have d10 : ((10 : Int) != 10) = false := rfl
                have d00 : ((10 : Int) != 0) = true := rfl
                simp only [d, d0, d1, d2, d3, dE, z1, z2, hD1, d10, d00, a0, a1, a2, a3, a4, b1', b3', y0, y1, hs, hs2, hb2, hF, hf, hv, beqT, beqF, Bool.not_true, Bool.not_false, decide_true, true_implies, Bool.true_eq_false, Bool.false_eq_true, false_implies, and_true, true_and, pE_d0_ok]
              · have z1 : (cc != 0) = true := bne_iff_ne.2 hz
                have z2 : (cc == 0) = false := beq_eq_false_iff_ne.2 hz
                rw [if_neg hz] at hD1
                have hD2 := hD2 hz
                have d00 : ((0 : Int) != 0) = false := rfl
                have dcc : (cc != cc) = false := bne_self_eq_false cc
                simp only [d, d0, d1, d2, d3, dE, z1, z2, hD1, hD2, d00, dcc, a0, a1, a2, a3, a4, b1', b3', y0, y1, hs, hs2, hb2, hF, hf, hv, beqT, beqF, Bool.not_true, Bool.not_false, decide_true, true_implies, Bool.true_eq_false, Bool.false_eq_true, false_implies, and_true, true_and, pE_d0_ok]
            · have dE : (refE ts h qq cc false == 0) = false := beq_eq_false_iff_ne.2 hE
              simp only [d, d0, d1, d2, d3, dE, a0, a1, a2, a3, a4, b1', b3', y0, y1, hs, hs2, hb2, hF, hf, hv, beqT, beqF, Bool.not_true, Bool.not_false, decide_true, true_implies, Bool.true_eq_false, Bool.false_eq_true, false_implies, and_true, true_and, pE_d0_ok]
          | false =>
            have hF := FC_new (q := qq) hv b1
            have hs2 := hF.v.f.ok.sz
            simp only [d, d0, d1, d2, d3, a0, a1, a2, a3, a4, b1', y0, y1, hs, hs2, hF, hf, hv, decide_true, true_implies, Bool.true_eq_false, Bool.false_eq_true, false_implies, and_true, true_and, pE_d0_ok]
theorem stale_row (ha : ActsOk cs off n) : Good Tryd.prog (isB true) 1 [callFr 4 Tryd.f4.ntmps [acS off n] (Tryd.f4.body.getD .skip)] (mkM 1 [(0, ⟨.raw cs, ty, false⟩)]) := by
  refine run_vc EL_ok 1000 (v0F off n cs ty (fun i us => i = ((0 : Nat) : Int) ∧ us = zT ∧ n ≤ 100)) ?_ (fun s m h => h) fun fs m hb => v0_go (fun i us ⟨e1, e2, e3⟩ => by rw [e1, e2]; exact rounds ha e3 n 0 zT (Nat.zero_add _) FC_zero) hb
  cases c : decide ((n : Int) > 100) with
  | true => simp only [c, true_implies, Bool.true_eq_false, false_implies, and_true]
  | false =>
    have c' := of_decide_eq_false c
    simp only [c, true_implies, Bool.false_eq_true, false_implies, and_true, true_and, pL_d0_ok]
    exact ⟨rfl, by omega⟩
theorem stale_none : Good Tryd.prog (isB true) 1 [callFr 4 Tryd.f4.ntmps [eS] (Tryd.f4.body.getD .skip)] (mkM 1 []) := by
  refine run_vc EW_ok 1000 (vZF 0) ?_ (fun s m h => h) fun fs m hb => hb.elim
  first | trivial | rfl
end
end Go.Proofs.YtdopckcockgefaaDoor
