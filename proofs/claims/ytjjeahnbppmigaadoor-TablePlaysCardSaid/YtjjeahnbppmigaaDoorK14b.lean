/- Contracts of functions of numbers that make a row of their own. No condition. -/
import Derived.Test.YtjjeahnbppmigaaDoorK14
set_option linter.unusedVariables false
set_option linter.unusedSimpArgs false
namespace Go.Proofs.YtjjeahnbppmigaaDoor
set_option linter.unusedSectionVars false
variable [Gh]
omit [Gh] in
def freeA : SA → Bool
  | .pop _ | .op _ => true
  | _ => false
omit [Gh] in
theorem free_ok {R R' : Ren} {a : SA} {cs : Array Value} (h : freeA a = true) (ha : a.okM R cs) : a.ok R' cs := by
  cases a <;> first | exact ha | cases h
theorem Con.fresh {E : Env} (hE : EnvOk E) {g : FuncId} {l : List SV} {m : SMem} {q : List Prop} {k : SN} {cap : SK} {a : SA} {ty : TypeId} {fn : Func} {c : Code} (h1 : E.fn g = some fn) (h2 : fn.body = some c) (hl0 : allB noIds l = true) (ha : freeA a = true)
    (h : (∀ p ∈ q, p) → Good E.P (fun s m' => s = .s (.c (.f (.slice 0 (.l 0) k cap))) ∧ m' = ⟨1, Tr.nil.set 0 (some ⟨a, ty, true⟩), []⟩) 0 [callFr g fn.ntmps l c] ⟨0, .nil, []⟩) :
    Con E g l m (needs q (.ret (.s (.c (.f (.slice m.next (.l 0) k cap)))) (m.new a ty))) := by
  intro A hs
  obtain ⟨hq, hA⟩ := Tree.sat_needs hs
  refine ⟨fn, h1, by rw [h2]; rfl, fun n0 F w0 w R args hl hR => ?_⟩
  refine (answers_of_good (m := ⟨0, .nil, []⟩) (hE.fns _ _ h1).1 h2 (h hq) (ok_anys hl0 hl) hR.none).mono ?_
  rintro v w' ⟨s, m', R', ⟨rfl, rfl⟩, hX, hR', hv⟩
  have hb0 : getB (Tr.nil.set 0 (some ⟨a, ty, true⟩)) 0 = some ⟨a, ty, true⟩ := rfl
  obtain ⟨gl, cs, fz, e1, e2, e3, e4, e5⟩ := hR'.blk 0 _ hb0
  obtain ⟨e6, ez⟩ := e5 rfl
  have e7 : w.heap.size ≤ gl.b := e6.resolve_right fun x => x
  obtain ⟨R2, k1, k2, k3⟩ := hR.grow hR'.fr.to e7 (hR'.lt 0 gl e1) e2 e3 (free_ok (R' := R) ha e4) ez
  obtain ⟨g, cp, f1, rfl, f2, f3⟩ := hv
  rw [e1] at f1
  cases f1
  exact ⟨_, _, R2, hA, k1, k3, gl, cp, k2, rfl, f2, f3⟩
theorem Good.retX {P : Program} {base : Nat} {fs : List SFr} {m s0m : SMem} {s0 : SV} (hg : Good P (fun s m' => ∃ π, retOk base π s0 s0m s m') base fs m) : Good P (fun s m' => s = s0 ∧ m' = s0m) base fs m := by
  intro n0 F w0 ws w Rs R fr frs hf hR hX hs
  refine (hg n0 F w0 ws w Rs R fr frs hf hR hX hs).mono ?_
  rintro v w' ⟨s, m', R', ⟨π, hA⟩, hX', hR', hv⟩
  unfold retOk at hA
  split at hA
  case isFalse => exact hA.elim
  rename_i hc
  simp only [Bool.and_eq_true] at hc
  obtain ⟨hb, hk⟩ := hc
  have hb := Nat.le_of_ble_eq_true hb
  split at hA
  case h_2 => exact hA.elim
  rename_i q hq
  obtain ⟨x, y, hx, hy, rfl⟩ := andO_some hq
  have hA := allP_iff hA
  obtain ⟨h1, h2⟩ := Rel.sub hb hk hy (fun p hp => hA p (List.mem_append_right _ hp)) hR' hX' hs
  exact ⟨s0, s0m, _, ⟨rfl, rfl⟩, h2, h1, SV.same_ok (fun i j e => renR_ok e) hx (fun p hp => hA p (List.mem_append_left _ hp)) hv⟩
end Go.Proofs.YtjjeahnbppmigaaDoor
