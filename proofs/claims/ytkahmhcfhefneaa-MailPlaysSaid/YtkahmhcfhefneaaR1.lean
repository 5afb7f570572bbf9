/- Of mail: acts that came in, cell by cell. No condition. -/
import Derived.Test.YtkahmhcfhefneaaW1
namespace Go.Proofs.Ytkahmhcfhefneaa
open Go.ChangeShapes Go.WideShapes Go.ChangeAt Go.RowKit Go.Deep
theorem cells37 : Try.prog.cellsOf 37 = 5 := by kernel_rfl
theorem isInt_of {k : IntKind} {cs : Array Value} {i : Nat} {n : Int} (h : cs.toList[i]? = some (.int k n)) : IsInt k cs i := by
  rw [Array.getElem?_toList] at h
  unfold IsInt intAt
  rw [h]
theorem wf_u8 {n : Int} (h : (Lit.int .u8 n).wf = true) : 0 ≤ n ∧ n ≤ 255 := by
  simp only [Lit.wf, Bool.and_eq_true, decide_eq_true_eq] at h
  exact h
theorem wf_u32 {n : Int} (h : (Lit.int .u32 n).wf = true) : 0 ≤ n ∧ n ≤ 4294967295 := by
  simp only [Lit.wf, Bool.and_eq_true, decide_eq_true_eq] at h
  exact h
theorem intAt_of {k : IntKind} {cs : Array Value} {i : Nat} {n : Int} (h : cs.toList[i]? = some (.int k n)) : intAt cs i = n := by
  rw [Array.getElem?_toList] at h
  unfold intAt
  rw [h]
theorem isBool_of {cs : Array Value} {i : Nat} {b : Bool} (h : cs.toList[i]? = some (.bool b)) : IsBool cs i := by
  rw [Array.getElem?_toList] at h
  unfold IsBool boolAt
  rw [h]
theorem act_of {H : Type} {enc : TypeId × Value → H} {W : World} {base : Nat} {held : Bool} {n : Nat} {cs : Array Value} {p : Nat} {y : DataW H × List MemPlace}
    (h : DataW.trod enc Try.prog W base (fun _ => true) held n 37 ((cs.toList.drop p).take 5) = some y) : ActIs cs p := by
  obtain ⟨n0, y0, h0⟩ := field_of Try.underlying37 h 0 rfl
  obtain ⟨n1, y1, h1⟩ := field_of Try.underlying37 h 1 rfl
  obtain ⟨m0, z0, g0⟩ := field_of Try.underlying28 h1 0 rfl
  obtain ⟨m1, z1, g1⟩ := field_of Try.underlying28 h1 1 rfl
  obtain ⟨m2, z2, g2⟩ := field_of Try.underlying28 h1 2 rfl
  obtain ⟨m3, z3, g3⟩ := field_of Try.underlying28 h1 3 rfl
  obtain ⟨_, e0, _, _⟩ := DataW.trod_int Try.underlying5 h0
  obtain ⟨n1, e1, _, w1⟩ := DataW.trod_int Try.underlying5 g0
  obtain ⟨_, e2, _, _⟩ := DataW.trod_int Try.underlying24 g1
  obtain ⟨n3, e3, _, w3⟩ := DataW.trod_int Try.underlying26 g2
  obtain ⟨_, e4, _⟩ := DataW.trod_bool Try.underlying4 g3
  have k0 := sub_get (sub_one e0)
  have k1 := sub_get (sub_get (sub_one e1))
  have k2 := sub_get (sub_get (sub_one e2))
  have k3 := sub_get (sub_get (sub_one e3))
  have k4 := sub_get (sub_get (sub_one e4))
  exact ⟨fun q e => by rw [e]; exact isInt_of k0, fun q e => by rw [e]; exact isInt_of k1, fun q e => by rw [e]; exact isInt_of k2, fun q e => by rw [e]; exact isInt_of k3, fun q e => by rw [e]; exact isBool_of k4,
    by
      have q : intAt cs (p + 1) = n1 := intAt_of k1
      rw [q]
      exact wf_u8 w1, by
      have q : intAt cs (p + 3) = n3 := intAt_of k3
      rw [q]
      exact wf_u32 w3⟩
theorem gl_nil : glTab = [] := rfl
/-- The acts' slice. -/
theorem acts_of {H : Type} {enc : TypeId × Value → H} {W : World} {base base' : Nat} {fuel : Nat} {A : Option Addr} {len cap : Nat} {held : Bool} {x : DataW H × List MemPlace}
    (hok : Value.okWide Try.prog W .any base 22 (.slice A len cap)) (h : DataW.trod enc Try.prog W base' (fun _ => true) held fuel 22 [.slice A len cap] = some x) :
    (A = none ∧ len = 0 ∧ cap = 0) ∨ ∃ b off cs ty fz, A = some ⟨b, off, none⟩ ∧ len ≤ cap ∧ W.heap[b]? = some (.cells cs ty fz) ∧ ActsOk cs off len := by
  rcases slice_cells Try.underlying22 cells37 hok h with h0 | ⟨b, off, cs, ty, fz, rfl, hl, _, ho, hj⟩
  · exact .inl h0
  · refine .inr ⟨b, off, cs, ty, fz, rfl, hl, ho, fun j hlt => ?_⟩
    obtain ⟨n, y, hy⟩ := hj j hlt
    exact act_of hy
end Go.Proofs.Ytkahmhcfhefneaa
