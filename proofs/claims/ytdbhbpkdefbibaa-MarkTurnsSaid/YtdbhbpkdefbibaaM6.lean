/- Of mark: Try. No condition. -/
import Derived.Test.YtdbhbpkdefbibaaM5
namespace Go.Proofs.Ytdbhbpkdefbibaa

def so (s : Int) : Nat := 0 + 0 + s.toNat * 11
def tPre (cs : Array Value) (s t : Int) (R : Prop) : Prop :=
  (decide (s ≥ 0) == true) = true ∧ ((!decide (s < 32)) == false) = true ∧ (decide (t ≥ 0) == true) = true ∧ (!decide (t < 8)) = false ∧ ((0 ≤ s ∧ s < (32 : Nat)) ∧ True) ∧ (Places cs (so s) ∧ True) ∧ (IsBool cs (so s + 0) ∧ True) ∧ R
def j1 (cs : Array Value) (o : Nat) (t : Int) : Array Value := cs.setIfInBounds (o + 3 + (intAt cs (o + 2)).toNat * 1) (.int .u8 (IntKind.u8.wrap t))
def j2 (cs : Array Value) (o : Nat) (t : Int) : Array Value := (j1 cs o t).setIfInBounds (o + 2) (.int .u8 (IntKind.u8.wrap (intAt (j1 cs o t) (o + 2) + 1)))
def w2 (cs : Array Value) (o : Nat) (t : Int) : Array Value := ((leaveOf cs o t).setIfInBounds (o + 0) (.bool true)).setIfInBounds (o + 1) (.int .u8 (IntKind.u8.wrap t))
def tEnd (Y X : Array Value) (b c : Bool) : Prop := (Y.size = 352 ∧ True) ∧ (Y.size = 352 ∧ Y.size = 352 ∧ True) ∧ (Y.size = 352 ∧ True) ∧ X = Y ∧ b = c ∧ True
noncomputable def tryF (cs : Array Value) (s t : Int) (X : Array Value) (b : Bool) (p : List Bool) : Prop :=
  (run E3 1000 ⟨11, padN Try.f11.ntmps [some (agg cs), some (i64 (.o s)), some (i64 (.o t))], [.code (Try.f11.body.getD .skip)], 0⟩ ⟨0, []⟩).follow (retOk 0 [] (.tup [.agg (.op X), .c (.f (.bool (.o b)))]) ⟨0, []⟩) (fun _ _ => False) p
section
variable (cs X : Array Value) (s t : Int) (b : Bool)
theorem try_n1 : tryF cs s t X b [false] = ((decide (s ≥ 0) == true) = false ∧ tEnd cs X b false) := by kernel_rfl
theorem try_n2 : tryF cs s t X b [true, false] = ((decide (s ≥ 0) == true) = true ∧ ((!decide (s < 32)) == false) = false ∧ tEnd cs X b false) := by kernel_rfl
theorem try_n3 : tryF cs s t X b [true, true, false] = ((decide (s ≥ 0) == true) = true ∧ ((!decide (s < 32)) == false) = true ∧ (decide (t ≥ 0) == true) = false ∧ tEnd cs X b false) := by kernel_rfl
theorem try_n4 : tryF cs s t X b [true, true, true, true] = ((decide (s ≥ 0) == true) = true ∧ ((!decide (s < 32)) == false) = true ∧ (decide (t ≥ 0) == true) = true ∧ (!decide (t < 8)) = true ∧ tEnd cs X b false) := by kernel_rfl
theorem try_h1 : tryF cs s t X b [true, true, true, false, false, true, true, true] = tPre cs s t ((boolAt cs (so s + 0) == false) = false ∧ (IsBool cs (so s + 0) ∧ True) ∧ (boolAt cs (so s + 0) == true) = true ∧ (IsInt .u8 cs (so s + 1) ∧ True) ∧
    ((!IntKind.i64.wrap (intAt cs (so s + 1)) == t) == true) = true ∧ decide (placeOf cs (so s) t < 0) = true ∧ (IsInt .u8 cs (so s + 2) ∧ (0 ≤ intAt cs (so s + 2) ∧ intAt cs (so s + 2) < (8 : Nat)) ∧ so s + 3 + (intAt cs (so s + 2)).toNat * 1 < cs.size ∧ True) ∧
    (IsInt .u8 (j1 cs (so s) t) (so s + 2) ∧ True) ∧ (so s + 2 < (j1 cs (so s) t).size ∧ True) ∧ tEnd (j2 cs (so s) t) X b (IntKind.i64.wrap (intAt cs (so s + 1)) == t)) := by kernel_rfl
theorem try_h2 : tryF cs s t X b [true, true, true, false, false, true, true, false] = tPre cs s t ((boolAt cs (so s + 0) == false) = false ∧ (IsBool cs (so s + 0) ∧ True) ∧ (boolAt cs (so s + 0) == true) = true ∧ (IsInt .u8 cs (so s + 1) ∧ True) ∧
    ((!IntKind.i64.wrap (intAt cs (so s + 1)) == t) == true) = true ∧ decide (placeOf cs (so s) t < 0) = false ∧ tEnd cs X b (IntKind.i64.wrap (intAt cs (so s + 1)) == t)) := by kernel_rfl
theorem try_h3 : tryF cs s t X b [true, true, true, false, false, true, false] = tPre cs s t ((boolAt cs (so s + 0) == false) = false ∧ (IsBool cs (so s + 0) ∧ True) ∧ (boolAt cs (so s + 0) == true) = true ∧ (IsInt .u8 cs (so s + 1) ∧ True) ∧
    ((!IntKind.i64.wrap (intAt cs (so s + 1)) == t) == true) = false ∧ tEnd cs X b (IntKind.i64.wrap (intAt cs (so s + 1)) == t)) := by kernel_rfl
theorem try_f1 : tryF cs s t X b [true, true, true, false, true, false] = tPre cs s t ((boolAt cs (so s + 0) == false) = true ∧ (IsInt .u8 cs (so s + 2) ∧ True) ∧ (decide (intAt cs (so s + 2) > 0) == true) = false ∧ (LeaveOk cs (so s) t ∧ True) ∧
    (so s + 0 < (leaveOf cs (so s) t).size ∧ True) ∧ (so s + 1 < ((leaveOf cs (so s) t).setIfInBounds (so s + 0) (.bool true)).size ∧ True) ∧ tEnd (w2 cs (so s) t) X b true) := by kernel_rfl
theorem try_f2 : tryF cs s t X b [true, true, true, false, true, true, false] = tPre cs s t ((boolAt cs (so s + 0) == false) = true ∧ (IsInt .u8 cs (so s + 2) ∧ True) ∧ (decide (intAt cs (so s + 2) > 0) == true) = true ∧ (placeOf cs (so s) t != 0) = false ∧ (LeaveOk cs (so s) t ∧ True) ∧
    (so s + 0 < (leaveOf cs (so s) t).size ∧ True) ∧ (so s + 1 < ((leaveOf cs (so s) t).setIfInBounds (so s + 0) (.bool true)).size ∧ True) ∧ tEnd (w2 cs (so s) t) X b true) := by kernel_rfl
theorem try_f3 : tryF cs s t X b [true, true, true, false, true, true, true, false, true] = tPre cs s t ((boolAt cs (so s + 0) == false) = true ∧ (IsInt .u8 cs (so s + 2) ∧ True) ∧ (decide (intAt cs (so s + 2) > 0) == true) = true ∧ (placeOf cs (so s) t != 0) = true ∧ (IsBool cs (so s + 0) ∧ True) ∧
    (boolAt cs (so s + 0) == true) = false ∧ decide (placeOf cs (so s) t < 0) = true ∧ (IsInt .u8 cs (so s + 2) ∧ (0 ≤ intAt cs (so s + 2) ∧ intAt cs (so s + 2) < (8 : Nat)) ∧ so s + 3 + (intAt cs (so s + 2)).toNat * 1 < cs.size ∧ True) ∧
    (IsInt .u8 (j1 cs (so s) t) (so s + 2) ∧ True) ∧ (so s + 2 < (j1 cs (so s) t).size ∧ True) ∧ tEnd (j2 cs (so s) t) X b false) := by kernel_rfl
theorem try_f4 : tryF cs s t X b [true, true, true, false, true, true, true, false, false] = tPre cs s t ((boolAt cs (so s + 0) == false) = true ∧ (IsInt .u8 cs (so s + 2) ∧ True) ∧ (decide (intAt cs (so s + 2) > 0) == true) = true ∧ (placeOf cs (so s) t != 0) = true ∧ (IsBool cs (so s + 0) ∧ True) ∧
    (boolAt cs (so s + 0) == true) = false ∧ decide (placeOf cs (so s) t < 0) = false ∧ tEnd cs X b false) := by kernel_rfl
end
end Go.Proofs.Ytdbhbpkdefbibaa
