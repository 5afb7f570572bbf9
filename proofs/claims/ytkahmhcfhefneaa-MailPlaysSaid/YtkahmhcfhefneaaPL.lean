/- Of mail: rows of messages, as the document has them. No condition. -/
import Derived.Test.YtkahmhcfhefneaaP1
import Derived.IntWalk
namespace Go.Proofs.Ytkahmhcfhefneaa
theorem pi64 {x : Int} (h : -9223372036854775808 ≤ x ∧ x ≤ 9223372036854775807) : IntKind.i64.wrap x = x := Go.IntWalk.i64_in x h
theorem int_iff {k : IntKind} {a : Array Value} {q : Nat} {v : Int} : (IsInt k a q ∧ intAt a q = v) ↔ a[q]? = some (.int k v) := by
  unfold IsInt
  constructor
  · rintro ⟨h1, h2⟩
    rw [h1, h2]
  · intro h
    have e : intAt a q = v := by unfold intAt; rw [h]
    exact ⟨by rw [e]; exact h, e⟩
theorem bool_iff {a : Array Value} {q : Nat} {v : Bool} : (IsBool a q ∧ boolAt a q = v) ↔ a[q]? = some (.bool v) := by
  unfold IsBool
  constructor
  · rintro ⟨h1, h2⟩
    rw [h1, h2]
  · intro h
    have e : boolAt a q = v := by unfold boolAt; rw [h]
    exact ⟨by rw [e]; exact h, e⟩
theorem MsgAt.mk' {a : Array Value} {o : Nat} {m : Msg} (h0 : a[o]? = some (.int .i64 m.f)) (h1 : a[o + 1]? = some (.int .u64 m.w)) (h2 : a[o + 2]? = some (.int .i64 m.r)) (h3 : a[o + 3]? = some (.bool m.s)) : MsgAt a o m :=
  ⟨fun q e => by rw [e]; exact int_iff.2 h0, fun q e => by rw [e]; exact int_iff.2 h1, fun q e => by rw [e]; exact int_iff.2 h2, fun q e => by rw [e]; exact bool_iff.2 h3, by
    have := (Array.getElem?_eq_some_iff.1 h3).1; omega⟩
theorem MsgsAt.size {a : Array Value} : ∀ {ms : List Msg} {o : Nat}, MsgsAt a o ms → ms ≠ [] → o + len ms * 4 ≤ a.size
  | [m], o, h, _ => by have := h.1.sz; simp only [len]; omega
  | m :: n :: l, o, h, _ => by
    have := MsgsAt.size (o := o + 4) h.2 (by simp)
    simp only [len] at this ⊢
    omega
def newM (ds : Array Value) (p : Nat) : Msg := ⟨intAt ds (p + 1), intAt ds (p + 2), intAt ds (p + 3), boolAt ds (p + 4)⟩
theorem newM_ok {ds : Array Value} {p : Nat} (hA : ActIs ds p) : MsgOk (newM ds p) := ⟨hA.r1.1, hA.r1.2, hA.r3.1, hA.r3.2⟩
theorem extract_at {a : Array Value} {o n q : Nat} (hq : q < n) (hn : o + n ≤ a.size) : (a.extract o (o + n))[q]? = a[o + q]? := by
  rw [Array.getElem?_extract, if_pos (by omega)]
theorem newA_old {a : Array Value} {o k : Nat} {ds : Array Value} {p q : Nat} {m : Msg} (h : MsgAt a (o + q) m) (hq : q + 4 ≤ k * 4) (hs : o + k * 4 ≤ a.size) : MsgAt (newA a o k ds p) q m := by
  have hx : ∀ i, i < 4 → (newA a o k ds p)[q + i]? = a[o + (q + i)]? := by
    intro i hi
    unfold newA
    rw [Array.getElem?_append_left (by simp only [Array.size_extract]; omega), extract_at (by omega) hs]
  refine MsgAt.mk' ?_ ?_ ?_ ?_
  · rw [show q = q + 0 from rfl, hx 0 (by omega)]; exact int_iff.1 (h.t0 _ (by omega))
  · rw [hx 1 (by omega)]; exact int_iff.1 (h.t1 _ (by omega))
  · rw [hx 2 (by omega)]; exact int_iff.1 (h.t2 _ (by omega))
  · rw [hx 3 (by omega)]; exact bool_iff.1 (h.t3 _ (by omega))
theorem new_cell {ds : Array Value} {p : Nat} (hA : ActIs ds p) : IntKind.i64.wrap (intAt ds (p + 1)) = intAt ds (p + 1) ∧ IntKind.i64.wrap (intAt ds (p + 3)) = intAt ds (p + 3) := by
  have := hA.r1
  have := hA.r3
  exact ⟨pi64 (by omega), pi64 (by omega)⟩
theorem newA_new {a : Array Value} {o k : Nat} {ds : Array Value} {p : Nat} (hs : o + k * 4 ≤ a.size) (hA : ActIs ds p) : MsgAt (newA a o k ds p) (k * 4) (newM ds p) := by
  obtain ⟨e1, e2⟩ := new_cell hA
  have hx : ∀ i, (newA a o k ds p)[k * 4 + i]? = (#[.int .i64 (IntKind.i64.wrap (intAt ds (p + 1))), .int .u64 (intAt ds (p + 2)), .int .i64 (IntKind.i64.wrap (intAt ds (p + 3))), .bool (boolAt ds (p + 4))] : Array Value)[i]? := by
    intro i
    have hz : (a.extract o (o + k * 4)).size = k * 4 := by rw [Array.size_extract]; omega
    unfold newA
    rw [Array.getElem?_append_right (by omega), hz, Nat.add_sub_cancel_left]
  refine MsgAt.mk' ?_ ?_ ?_ ?_
  · rw [show k * 4 = k * 4 + 0 from rfl, hx 0, e1]; rfl
  · rw [hx 1]; rfl
  · rw [hx 2, e2]; rfl
  · rw [hx 3]; rfl
theorem newA_msgs {a : Array Value} {o k : Nat} {ds : Array Value} {p : Nat} (hs : o + k * 4 ≤ a.size) (hA : ActIs ds p) : ∀ (ms : List Msg) (q : Nat), MsgsAt a (o + q) ms → q + len ms * 4 = k * 4 → MsgsAt (newA a o k ds p) q (ms ++ [newM ds p])
  | [], q, _, hq => by
    have : q = k * 4 := by simp only [len] at hq; omega
    subst this
    exact ⟨newA_new hs hA, trivial⟩
  | m :: l, q, h, hq => by
    simp only [len] at hq
    exact ⟨newA_old h.1 (by omega) hs, newA_msgs hs hA l (q + 4) h.2 (by omega)⟩
theorem newA_ok {a : Array Value} {o : Nat} {ds : Array Value} {p : Nat} {ms : List Msg} (hA : ActIs ds p) (h : MsgsAt a o ms) (hn : ms ≠ []) : MsgsAt (newA a o (len ms) ds p) 0 (ms ++ [newM ds p]) :=
  newA_msgs (MsgsAt.size h hn) hA ms 0 h (by omega)
theorem new0_ok {ds : Array Value} {p : Nat} (hA : ActIs ds p) : MsgsAt (new0 ds p) 0 [newM ds p] := by
  obtain ⟨e1, e2⟩ := new_cell hA
  refine ⟨MsgAt.mk' ?_ ?_ ?_ ?_, trivial⟩
  · exact congrArg (fun x => some (Value.int .i64 x)) e1
  · rfl
  · exact congrArg (fun x => some (Value.int .i64 x)) e2
  · rfl
theorem putAt_all {h : Array Value} {l : List Value} (e : h.size = l.length) : putAt h 0 l = l.toArray := by
  unfold putAt
  rw [List.take_zero, List.nil_append, Nat.zero_add, List.drop_of_length_le (by rw [Array.length_toList, e]; exact Nat.le_refl _), List.append_nil]
theorem boxV_size (ms : List Msg) (c : Bool) (h : len ms ≤ 4) : (boxV ms c).size = 19 := by
  match ms with
  | [] => rfl
  | [_] => rfl
  | [_, _] => rfl
  | [_, _, _] => rfl
  | [_, _, _, _] => rfl
  | _ :: _ :: _ :: _ :: _ :: _ => simp only [len] at h; omega
def VRow (ms : List Msg) : VL → Prop
  | none => ms = []
  | some (a, o, k) => ms ≠ [] ∧ k = len ms ∧ MsgsAt a o ms
theorem vok_of {h : Array Value} {hc : Bool} {v : VL} (ms : List Msg) (e : h = boxV ms hc) (hl : len ms ≤ 4) (hm : MsgsOk ms) (hv : VRow ms v) : VOk h hc v := by
  refine ⟨ms, e, hl, hm, ?_⟩
  cases v with
  | none => exact hv
  | some x => exact hv
theorem vok_put {h : Array Value} {l : List Value} {c : Bool} {v : VL} (ms : List Msg) (hs : h.size = 19) (hl : l.length = 19) (e : l.toArray = boxV ms c) (h4 : len ms ≤ 4) (hm : MsgsOk ms) (hv : VRow ms v) : VOk (putAt h 0 l) c v :=
  vok_of ms (by rw [putAt_all (by omega), e]) h4 hm hv
theorem vok_size {h : Array Value} {hc : Bool} {v : VL} (hv : VOk h hc v) : h.size = 19 := by
  obtain ⟨ms, rfl, h1, _⟩ := hv
  exact boxV_size ms hc h1
theorem pInv_of {n : Nat} {ms : List Msg} {w : WL} {i : Nat} (h1 : len ms ≤ 4) (h2 : MsgsOk ms) (h3 : WOk ms w) (hi : i < n) (hn : n ≤ 200) : pInv n ms w ((i : Int) + 1) := ⟨h1, h2, h3, by omega, by omega, hn⟩
theorem p_tk (r : Nat → Option Nat) : TodoOk r pTodo pTodo := TodoOk.same (by kernel_rfl)
theorem p_tk0 (r : Nat → Option Nat) : TodoOk r pTodo0 pTodo0 := TodoOk.same (by kernel_rfl)
end Go.Proofs.Ytkahmhcfhefneaa
