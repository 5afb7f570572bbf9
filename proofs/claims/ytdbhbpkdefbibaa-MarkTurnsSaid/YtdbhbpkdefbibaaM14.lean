/- Of mark: the law behind its acts. No condition. -/
import Derived.Test.YtdbhbpkdefbibaaM13
namespace Go.Proofs.Ytdbhbpkdefbibaa

def cutT : Tree → List Bool → Tree
  | .br _ t _, true :: p => cutT t p
  | .br _ _ e, false :: p => cutT e p
  | .need _ t, p => cutT t p
  | t, _ => t
def wSlice (n : Nat) : SV := .s (.c (.f (.slice 2 (.l 0) (.o n) (.full 1))))
def wM (cs : Array Value) (ws : Array Value) : SMem := ⟨3, [⟨1, .op cs, 29, true⟩, ⟨2, .pop ws, 3, true⟩]⟩
def wN (cs : Array Value) : SMem := ⟨2, [⟨1, .op cs, 29, true⟩]⟩
noncomputable abbrev st0 (s : Int) (off n : Nat) (ds cs : Array Value) (ty : TypeId) : Tree := stepT E5.go (run E5 1000) (actsI off n s n (headL turnsTodo)) (actsM ds ty cs) (actsI off n s n (headL turnsTodo)).todo
noncomputable def w1Todo : List Item := (cutT (st0 0 0 0 #[] #[] 0) [false]).todo
noncomputable def w1I (s v : Int) (b : Bool) (wait : SV) (k : Nat) (td : List Item) : SFr :=
  ⟨4, tmOf Try.f4.ntmps [(1, i64 (.o s)), (5, ptr 1 (.l 0)), (8, i64 (.o v)), (9, sB (.o b)), (10, wait), (11, i64 (.o k))], td, 1⟩
noncomputable abbrev st1 (s v : Int) (b : Bool) (wait : SV) (k : Nat) (m : SMem) : Tree := stepT E5.go (run E5 1000) (w1I s v b wait k (headL w1Todo)) m (w1I s v b wait k (headL w1Todo)).todo
noncomputable def w2Todo : List Item := (cutT (st1 0 0 false (wSlice 0) 0 (wM #[] #[])) [false, false]).todo
noncomputable def w2I (s : Int) (wait : SV) (k : Nat) (td : List Item) : SFr :=
  ⟨4, tmOf Try.f4.ntmps [(1, i64 (.o s)), (5, ptr 1 (.l 0)), (10, wait), (12, i64 (.o k))], td, 1⟩
noncomputable abbrev st2 (s : Int) (wait : SV) (k : Nat) (m : SMem) : Tree := stepT E5.go (run E5 1000) (w2I s wait k (headL w2Todo)) m (w2I s wait k (headL w2Todo)).todo
noncomputable def w3Todo : List Item := (cutT (st2 0 (wSlice 0) 0 (wM #[] #[])) [true]).todo
noncomputable def w3I (s : Int) (wait : SV) (i : Nat) (k : Int) (td : List Item) : SFr :=
  ⟨4, tmOf Try.f4.ntmps [(1, i64 (.o s)), (5, ptr 1 (.l 0)), (10, wait), (12, i64 (.o i)), (13, i64 (.o k))], td, 1⟩
noncomputable abbrev st3 (s : Int) (n i : Nat) (k : Int) (cs ws : Array Value) : Tree := stepT E5.go (run E5 1000) (w3I s (wSlice n) i k (headL w3Todo)) (wM cs ws) (w3I s (wSlice n) i k (headL w3Todo)).todo
def trueR : SV → SMem → Prop := retOk 1 [] (sB (.l true)) ⟨1, []⟩
def wAt (ws : Array Value) (k : Int) : Int := intAt ws (0 + k.toNat * 1)
section
variable (s v k : Int) (off n i j : Nat) (b : Bool) (ds cs ws X : Array Value) (ty : TypeId)
theorem v0_nil : (st0 s off n ds cs ty).follow (fun _ _ => False) (subOk [(1, 1)] (w1I s (holdV cs s) (holdB cs s) nilS 0 w1Todo) (wN cs)) [false, true] =
    (decide ((n : Int) < n) = false ∧ (cs.size = 352 ∧ True) ∧ (IsM cs ∧ True) ∧ (cs.size = 352 ∧ True) ∧ (IsM cs ∧ True) ∧ decide (waitR cs s = []) = true ∧ TodoOk w1Todo w1Todo ∧ s = s ∧ holdV cs s = holdV cs s ∧ holdB cs s = holdB cs s ∧
      Value.slice none 0 0 = Value.slice none 0 0 ∧ ((0 : Nat) : Int) = 0 ∧ (29 : Nat) = 29 ∧ cs = cs ∧ True) := by kernel_rfl
theorem v0_row : (st0 s off n ds cs ty).follow (fun _ _ => False) (subOk [(1, 1), (2, 2)] (w1I s (holdV cs s) (holdB cs s) (wSlice j) 0 w1Todo) (wM cs ws)) [false, false] =
    (decide ((n : Int) < n) = false ∧ (cs.size = 352 ∧ True) ∧ (IsM cs ∧ True) ∧ (cs.size = 352 ∧ True) ∧ (IsM cs ∧ True) ∧ decide (waitR cs s = []) = false ∧ TodoOk w1Todo w1Todo ∧ s = s ∧ holdV cs s = holdV cs s ∧ holdB cs s = holdB cs s ∧
      j = (waitR cs s).length ∧ ((0 : Nat) : Int) = 0 ∧ (29 : Nat) = 29 ∧ cs = cs ∧ (3 : Nat) = 3 ∧ ws = waitA (waitR cs s) ∧ True) := by kernel_rfl
theorem v1_free : (st1 s v b (wSlice n) j (wM cs ws)).follow (fun _ _ => False) (subOk [(1, 1), (2, 2)] (w1I s v b (wSlice n) (j + 1) (headL w1Todo)) (wM cs ws)) [true, false, false] =
    (decide ((j : Int) < n) = true ∧ (b == true) = false ∧ TodoOk (headL w1Todo) (headL w1Todo) ∧ s = s ∧ v = v ∧ b = b ∧ n = n ∧ ((j + 1 : Nat) : Int) = IntKind.i64.wrap (j + 1) ∧ (29 : Nat) = 29 ∧ cs = cs ∧ (3 : Nat) = 3 ∧ ws = ws ∧ True) := by kernel_rfl
theorem v1_held : (st1 s v b (wSlice n) j (wM cs ws)).follow (fun _ _ => False) (subOk [(1, 1), (2, 2)] (w1I s v b (wSlice n) (j + 1) (headL w1Todo)) (wM cs ws)) [true, true, false] =
    (decide ((j : Int) < n) = true ∧ (b == true) = true ∧ ((0 ≤ (j : Int) ∧ (j : Int) < n) ∧ True) ∧ (IsInt .i64 ws (0 + (j : Int).toNat * 1) ∧ True) ∧ (wAt ws j == v) = false ∧
      TodoOk (headL w1Todo) (headL w1Todo) ∧ s = s ∧ v = v ∧ b = b ∧ n = n ∧ ((j + 1 : Nat) : Int) = IntKind.i64.wrap (j + 1) ∧ (29 : Nat) = 29 ∧ cs = cs ∧ (3 : Nat) = 3 ∧ ws = ws ∧ True) := by kernel_rfl
theorem v1_endY : (st1 s v b (wSlice n) j (wM cs ws)).follow (fun _ _ => False) (subOk [(1, 1), (2, 2)] (w2I s (wSlice n) 0 w2Todo) (wM X ws)) [false, true] =
    (decide ((j : Int) < n) = false ∧ b = true ∧ (cs.size = 352 ∧ True) ∧ (IsM cs ∧ True) ∧ ((freeM cs s v).size = 352 ∧ (freeM cs s v).size = cs.size ∧ True) ∧ TodoOk w2Todo w2Todo ∧ s = s ∧ n = n ∧ ((0 : Nat) : Int) = 0 ∧ (29 : Nat) = 29 ∧ X = freeM cs s v ∧ (3 : Nat) = 3 ∧ ws = ws ∧ True) := by kernel_rfl
theorem v1_endN : (st1 s v b (wSlice n) j (wM cs ws)).follow (fun _ _ => False) (subOk [(1, 1), (2, 2)] (w2I s (wSlice n) 0 w2Todo) (wM X ws)) [false, false] =
    (decide ((j : Int) < n) = false ∧ b = false ∧ TodoOk w2Todo w2Todo ∧ s = s ∧ n = n ∧ ((0 : Nat) : Int) = 0 ∧ (29 : Nat) = 29 ∧ X = cs ∧ (3 : Nat) = 3 ∧ ws = ws ∧ True) := by kernel_rfl
theorem v1_nilY : (st1 s v b nilS 0 (wN cs)).follow (fun _ _ => False) (subOk [(1, 1)] (w2I s nilS 0 w2Todo) (wN X)) [false, true] =
    (decide (((0 : Nat) : Int) < (0 : Nat)) = false ∧ b = true ∧ (cs.size = 352 ∧ True) ∧ (IsM cs ∧ True) ∧ ((freeM cs s v).size = 352 ∧ (freeM cs s v).size = cs.size ∧ True) ∧ TodoOk w2Todo w2Todo ∧ s = s ∧ Value.slice none 0 0 = Value.slice none 0 0 ∧ ((0 : Nat) : Int) = 0 ∧ (29 : Nat) = 29 ∧ X = freeM cs s v ∧ True) := by kernel_rfl
theorem v1_nilN : (st1 s v b nilS 0 (wN cs)).follow (fun _ _ => False) (subOk [(1, 1)] (w2I s nilS 0 w2Todo) (wN X)) [false, false] =
    (decide (((0 : Nat) : Int) < (0 : Nat)) = false ∧ b = false ∧ TodoOk w2Todo w2Todo ∧ s = s ∧ Value.slice none 0 0 = Value.slice none 0 0 ∧ ((0 : Nat) : Int) = 0 ∧ (29 : Nat) = 29 ∧ X = cs ∧ True) := by kernel_rfl
theorem v2_nil : (st2 s nilS 0 (wN cs)).follow trueR (fun _ _ => False) [false, true, true] =
    (decide (((0 : Nat) : Int) < (0 : Nat)) = false ∧ (cs.size = 352 ∧ True) ∧ (IsM cs ∧ True) ∧ ((!holdB cs s) == true) = true ∧ (cs.size = 352 ∧ True) ∧ (IsM cs ∧ True) ∧ decide (waitR cs s = []) = true ∧ True) := by kernel_rfl
theorem v2_end : (st2 s (wSlice n) i (wM cs ws)).follow trueR (fun _ _ => False) [false, true, true] =
    (decide ((i : Int) < n) = false ∧ (cs.size = 352 ∧ True) ∧ (IsM cs ∧ True) ∧ ((!holdB cs s) == true) = true ∧ (cs.size = 352 ∧ True) ∧ (IsM cs ∧ True) ∧ decide (waitR cs s = []) = true ∧ True) := by kernel_rfl
theorem v2_in : (st2 s (wSlice n) i (wM cs ws)).follow (fun _ _ => False) (subOk [(1, 1), (2, 2)] (w3I s (wSlice n) i k w3Todo) (wM cs ws)) [true] =
    (decide ((i : Int) < n) = true ∧ TodoOk w3Todo w3Todo ∧ s = s ∧ n = n ∧ (i : Int) = i ∧ k = IntKind.i64.wrap (n - 1) ∧ (29 : Nat) = 29 ∧ cs = cs ∧ (3 : Nat) = 3 ∧ ws = ws ∧ True) := by kernel_rfl
theorem v3_go : (st3 s n i k cs ws).follow (fun _ _ => False) (subOk [(1, 1), (2, 2)] (w3I s (wSlice n) i (k - 1) (headL w3Todo)) (wM X ws)) [true, true, false, false] =
    (decide (k > (i : Int)) = true ∧ (cs.size = 352 ∧ (0 ≤ k ∧ k < n) ∧ IsInt .i64 ws (0 + k.toNat * 1) ∧ IsM cs ∧ (tryM cs s (wAt ws k)).size = 352 ∧ (tryM cs s (wAt ws k)).size = 352 ∧ True) ∧ (tryOk cs s (wAt ws k) == false) = true ∧
      ((tryM cs s (wAt ws k)).size = 352 ∧ True) ∧ (IsM (tryM cs s (wAt ws k)) ∧ True) ∧ decide (waitR (tryM cs s (wAt ws k)) s = []) = false ∧ (((waitR (tryM cs s (wAt ws k)) s).length : Int) != IntKind.i64.wrap (n - i)) = false ∧
      ((tryM cs s (wAt ws k)).size = 352 ∧ True) ∧ ((tryM cs s (wAt ws k)).size = 352 ∧ (tryM cs s (wAt ws k)).size = cs.size ∧ True) ∧ TodoOk (headL w3Todo) (headL w3Todo) ∧ s = s ∧ n = n ∧ (i : Int) = i ∧ k - 1 = IntKind.i64.wrap (k - 1) ∧
      (29 : Nat) = 29 ∧ X = tryM cs s (wAt ws k) ∧ (3 : Nat) = 3 ∧ ws = ws ∧ True) := by kernel_rfl
theorem v3_out : (st3 s n i k cs ws).follow (fun _ _ => False) (subOk [(1, 1), (2, 2)] (w2I s (wSlice n) (i + 1) (headL w2Todo)) (wM X ws)) [false, false] =
    (decide (k > (i : Int)) = false ∧ (cs.size = 352 ∧ (0 ≤ (i : Int) ∧ (i : Int) < n) ∧ IsInt .i64 ws (0 + (i : Int).toNat * 1) ∧ IsM cs ∧ (tryM cs s (wAt ws i)).size = 352 ∧ (tryM cs s (wAt ws i)).size = 352 ∧ True) ∧ (!tryOk cs s (wAt ws i)) = false ∧
      ((tryM cs s (wAt ws i)).size = 352 ∧ (0 ≤ (i : Int) ∧ (i : Int) < n) ∧ IsInt .i64 ws (0 + (i : Int).toNat * 1) ∧ IsM (tryM cs s (wAt ws i)) ∧ (freeM (tryM cs s (wAt ws i)) s (wAt ws i)).size = 352 ∧ (freeM (tryM cs s (wAt ws i)) s (wAt ws i)).size = cs.size ∧ True) ∧
      TodoOk (headL w2Todo) (headL w2Todo) ∧ s = s ∧ n = n ∧ ((i + 1 : Nat) : Int) = IntKind.i64.wrap (i + 1) ∧ (29 : Nat) = 29 ∧ X = freeM (tryM cs s (wAt ws i)) s (wAt ws i) ∧ (3 : Nat) = 3 ∧ ws = ws ∧ True) := by kernel_rfl
end
end Go.Proofs.Ytdbhbpkdefbibaa
