/- Of rows: what is read behind what was written. No condition. -/
import Derived.Test.YtjjeahnbppmigaaDoorK23
set_option linter.unusedVariables false
set_option linter.unusedSimpArgs false
namespace Go.Proofs.YtjjeahnbppmigaaDoor
theorem isI_of {cs : Array Value} {p : Nat} {k : IntKind} {n : Int} (h : cs[p]? = some (.int k n)) : IsInt k cs p := by unfold IsInt intAt; rw [h]
theorem intAt_of {cs : Array Value} {p : Nat} {k : IntKind} {n : Int} (h : cs[p]? = some (.int k n)) : intAt cs p = n := by unfold intAt; rw [h]
theorem isBo_of {cs : Array Value} {p : Nat} {b : Bool} (h : cs[p]? = some (.bool b)) : IsBool cs p := by unfold IsBool boolAt; rw [h]
theorem boolAt_of {cs : Array Value} {p : Nat} {b : Bool} (h : cs[p]? = some (.bool b)) : boolAt cs p = b := by unfold boolAt; rw [h]
theorem putAt_size {cs : Array Value} {i : Nat} {l : List Value} (h : i + l.length ≤ cs.size) : (putAt cs i l).size = cs.size := by
  unfold putAt
  rw [List.size_toArray, List.length_append, List.length_append, List.length_take, List.length_drop, Array.length_toList]
  omega
theorem putAt_in {cs : Array Value} {i k : Nat} {l : List Value} (h : i + l.length ≤ cs.size) (h1 : i ≤ k) (h2 : k < i + l.length) : (putAt cs i l)[k]? = l[k - i]? := by
  unfold putAt
  have h3 : (cs.toList.take i).length = i := by rw [List.length_take, Array.length_toList]; omega
  rw [List.getElem?_toArray, List.append_assoc, List.getElem?_append_right (by omega), h3, List.getElem?_append_left (by omega)]
theorem putAt_out {cs : Array Value} {i k : Nat} {l : List Value} (h : i + l.length ≤ cs.size) (h1 : k < i ∨ i + l.length ≤ k) : (putAt cs i l)[k]? = cs[k]? := by
  unfold putAt
  have h3 : (cs.toList.take i).length = i := by rw [List.length_take, Array.length_toList]; omega
  rw [List.getElem?_toArray, List.append_assoc]
  rcases h1 with h1 | h1
  · rw [List.getElem?_append_left (by omega), List.getElem?_take_of_lt h1, Array.getElem?_toList]
  · rw [List.getElem?_append_right (by omega), List.getElem?_append_right (by omega), List.getElem?_drop, Array.getElem?_toList]
    congr 1
    omega
theorem set_in {cs : Array Value} {i : Nat} {v : Value} (h : i < cs.size) : (cs.setIfInBounds i v)[i]? = some v := by rw [Array.getElem?_setIfInBounds, if_pos rfl, if_pos h]
theorem set_out {cs : Array Value} {i k : Nat} {v : Value} (h : k ≠ i) : (cs.setIfInBounds i v)[k]? = cs[k]? := by rw [Array.getElem?_setIfInBounds, if_neg (fun e => h e.symm)]
theorem set_size {cs : Array Value} {i : Nat} {v : Value} : (cs.setIfInBounds i v).size = cs.size := Array.size_setIfInBounds
theorem ext_get {cs : Array Value} {a b k : Nat} (h : b ≤ cs.size) (hk : k < b - a) : (cs.extract a b)[k]? = cs[a + k]? := by rw [Array.getElem?_extract, if_pos (by omega)]
theorem ext_size {cs : Array Value} {a b : Nat} (h : b ≤ cs.size) : (cs.extract a b).size = b - a := by rw [Array.size_extract]; omega
theorem beqT (b : Bool) : (b == true) = b := by cases b <;> rfl
theorem beqF (b : Bool) : (b == false) = !b := by cases b <;> rfl
end Go.Proofs.YtjjeahnbppmigaaDoor
