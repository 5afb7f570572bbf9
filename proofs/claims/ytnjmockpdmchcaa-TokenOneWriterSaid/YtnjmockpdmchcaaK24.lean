/- Of rows: what is read behind what was written. No condition. -/
import Derived.Test.YtnjmockpdmchcaaK23
set_option linter.unusedVariables false
set_option linter.unusedSimpArgs false
namespace Go.Proofs.Ytnjmockpdmchcaa
theorem isI_of {cs : Array Value} {p : Nat} {k : IntKind} {n : Int} (h : cs[p]? = some (.int k n)) : IsInt k cs p := by unfold IsInt intAt; rw [h]
theorem intAt_of {cs : Array Value} {p : Nat} {k : IntKind} {n : Int} (h : cs[p]? = some (.int k n)) : intAt cs p = n := by unfold intAt; rw [h]
theorem isBo_of {cs : Array Value} {p : Nat} {b : Bool} (h : cs[p]? = some (.bool b)) : IsBool cs p := by unfold IsBool boolAt; rw [h]
theorem boolAt_of {cs : Array Value} {p : Nat} {b : Bool} (h : cs[p]? = some (.bool b)) : boolAt cs p = b := by unfold boolAt; rw [h]
theorem putAt_size {cs : Array Value} {i : Nat} {l : List Value} (h : i + l.length ≤ cs.size) : (putAt cs i l).size = cs.size := by
  unfold putAt
  rw [List.size_toArray, List.length_append, List.length_append, List.length_take, List.length_drop, Array.length_toList]
  omega
theorem putAt_in {cs : Array Value} {i k : Nat} {l : List Value} (h : i + l.length ≤ cs.size) (h1 : i ≤ k) (h2 : k < i + l.length) : (putAt cs i l)[k]? = l[k - i]? := by
  unfold putAt
  have h3 : (cs.toList.take i).length = i := by rw [List.length_take, Array.length_toList]; omega
  rw [List.getElem?_toArray, List.append_assoc, List.getElem?_append_right (by omega), h3, List.getElem?_append_left (by omega)]
theorem putAt_out {cs : Array Value} {i k : Nat} {l : List Value} (h : i + l.length ≤ cs.size) (h1 : k < i ∨ i + l.length ≤ k) : (putAt cs i l)[k]? = cs[k]? := by
  unfold putAt
  have h3 : (cs.toList.take i).length = i := by rw [List.length_take, Array.length_toList]; omega
  rw [List.getElem?_toArray, List.append_assoc]
  rcases h1 with h1 | h1
  · rw [List.getElem?_append_left (by omega), List.getElem?_take_of_lt h1, Array.getElem?_toList]
  · rw [List.getElem?_append_right (by omega), List.getElem?_append_right (by omega), List.getElem?_drop, Array.getElem?_toList]
    congr 1
    omega
theorem set_in {cs : Array Value} {i : Nat} {v : Value} (h : i < cs.size) : (cs.setIfInBounds i v)[i]? = some v := by rw [Array.getElem?_setIfInBounds, if_pos rfl, if_pos h]
theorem set_out {cs : Array Value} {i k : Nat} {v : Value} (h : k ≠ i) : (cs.setIfInBounds i v)[k]? = cs[k]? := by rw [Array.getElem?_setIfInBounds, if_neg (fun e => h e.symm)]
theorem set_size {cs : Array Value} {i : Nat} {v : Value} : (cs.setIfInBounds i v).size = cs.size := Array.size_setIfInBounds
theorem ext_get {cs : Array Value} {a b k : Nat} (h : b ≤ cs.size) (hk : k < b - a) : (cs.extract a b)[k]? = cs[a + k]? := by rw [Array.getElem?_extract, if_pos (by omega)]
theorem ext_size {cs : Array Value} {a b : Nat} (h : b ≤ cs.size) : (cs.extract a b).size = b - a := by rw [Array.size_extract]; omega
theorem beqT (b : Bool) : (b == true) = b := by cases b <;> rfl
theorem beqF (b : Bool) : (b == false) = !b := by cases b <;> rfl
/-! Maps. -/
theorem look_ins {k v j : Int} : ∀ l : List (Int × Int), lookI j (insI k v l) = if j = k then some v else lookI j l
  | [] => by
    simp only [insI, lookI]
    by_cases e : k = j
    · rw [if_pos e, if_pos e.symm]
    · rw [if_neg e, if_neg (fun h => e h.symm)]
  | (a, u) :: l => by
    simp only [insI]
    by_cases e : a = k
    · rw [if_pos e]
      simp only [lookI]
      by_cases e2 : a = j
      · rw [if_pos e2, if_pos (by omega)]
      · rw [if_neg e2, if_neg (by omega), if_neg e2]
    · rw [if_neg e]
      simp only [lookI]
      by_cases e2 : a = j
      · rw [if_pos e2, if_neg (by omega), if_pos e2]
      · rw [if_neg e2, look_ins l, if_neg e2]
theorem has_ins {k v j : Int} (l : List (Int × Int)) : hasI j (insI k v l) = (decide (j = k) || hasI j l) := by
  unfold hasI
  rw [look_ins]
  by_cases e : j = k
  · rw [if_pos e, decide_eq_true e]; rfl
  · rw [if_neg e, decide_eq_false e, Bool.false_or]
theorem get_ins {k v j : Int} (l : List (Int × Int)) : getI j (insI k v l) = if j = k then v else getI j l := by
  unfold getI
  rw [look_ins]
  split <;> rfl
/-- No key stands twice. -/
def NoDup : List (Int × Int) → Prop
  | [] => True
  | (a, _) :: l => lookI a l = none ∧ NoDup l
theorem nodup_ins {k v : Int} : ∀ {l : List (Int × Int)}, NoDup l → NoDup (insI k v l)
  | [], _ => ⟨rfl, trivial⟩
  | (a, u) :: l, h => by
    simp only [insI]
    by_cases e : a = k
    · rw [if_pos e]; exact h
    · rw [if_neg e]
      refine ⟨?_, nodup_ins h.2⟩
      rw [look_ins, if_neg e]
      exact h.1
theorem look_del_ne {k j : Int} (hj : j ≠ k) : ∀ {l : List (Int × Int)}, lookI j (delI k l) = lookI j l
  | [] => rfl
  | (a, u) :: l => by
    simp only [delI]
    by_cases e : a = k
    · rw [if_pos e]
      simp only [lookI]
      rw [if_neg (by omega)]
    · rw [if_neg e]
      simp only [lookI]
      rw [look_del_ne hj]
theorem look_del {k : Int} : ∀ {l : List (Int × Int)}, NoDup l → lookI k (delI k l) = none
  | [], _ => rfl
  | (a, u) :: l, h => by
    simp only [delI]
    by_cases e : a = k
    · rw [if_pos e, ← e]; exact h.1
    · rw [if_neg e]
      simp only [lookI]
      rw [if_neg e]
      exact look_del h.2
theorem nodup_del {k : Int} : ∀ {l : List (Int × Int)}, NoDup l → NoDup (delI k l)
  | [], _ => trivial
  | (a, u) :: l, h => by
    simp only [delI]
    by_cases e : a = k
    · rw [if_pos e]; exact h.2
    · rw [if_neg e]
      exact ⟨by rw [look_del_ne e]; exact h.1, nodup_del h.2⟩
theorem has_del {k j : Int} {l : List (Int × Int)} (h : NoDup l) : hasI j (delI k l) = (!decide (j = k) && hasI j l) := by
  unfold hasI
  by_cases e : j = k
  · rw [e, look_del h, decide_eq_true rfl]; rfl
  · rw [look_del_ne e, decide_eq_false e, Bool.not_false, Bool.true_and]
end Go.Proofs.Ytnjmockpdmchcaa
