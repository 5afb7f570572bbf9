/- Functions that only read blocks: a value, or a row of their own. No condition. -/
import Derived.Test.YtjjeahnbppmigaaDoorK15
import Derived.Test.YtjjeahnbppmigaaDoorK14b
set_option linter.unusedVariables false
set_option linter.unusedSimpArgs false
namespace Go.Proofs.YtjjeahnbppmigaaDoor
set_option linter.unusedSectionVars false
variable [Gh]
section
variable {E : Env}
theorem rel_ro {ms m : SMem} (hxs : ms.xs = []) {ι : Nat → Nat}
    (hm : ∀ i b, getB ms.bl i = some b → i < ms.next ∧ b.wr = false ∧ ∃ d, getB m.bl (ι i) = some d ∧ b.ty = d.ty ∧ ∀ R cs, d.arr.okM R cs → b.arr.okM (pull ι ms.next R) cs)
    {n0 : Nat} {F : Nat → Prop} {w0 w : World} {R : Ren} (hR : Rel n0 F w0 R m w) : Rel w.heap.size (fun _ => False) w (pull ι ms.next R) ms w := by
  have pull_some : ∀ {i x}, pull ι ms.next R i = some x → i < ms.next ∧ R (ι i) = some x := by
    intro i x h
    unfold pull at h
    split at h
    · rename_i h1; exact ⟨h1, h⟩
    · cases h
  refine ⟨fun i j x y b d h1 h2 h3 h4 h5 h6 => ?_, fun i x h => hR.lt _ _ (pull_some h).2, fun i x h => (pull_some h).1, fun i b hb => ?_, Nat.le_refl _, BelowF.refl _ _ _, fun i x hx => (by rw [hxs] at hx; cases hx), fun i j g h x y _ _ _ hx => (by rw [hxs] at hx; cases hx), fun g cs hg => ?_⟩
  rotate_right
  · obtain ⟨g1, g2, cs', ty, fz, g3, g4⟩ := hR.gl g cs hg
    exact ⟨Nat.lt_of_lt_of_le g1 hR.base, fun h => h, cs', ty, fz, (hR.fr.block g g1 g2).trans g3, g4⟩
  · have e1 := (hm i b h4).2.1
    have e2 := (hm j d h5).2.1
    rw [e1, e2] at h6
    simp at h6
  · obtain ⟨e0, ew, d, e1, e2, e3⟩ := hm i b hb
    obtain ⟨x, cs, fz, k1, k2, k3, k4, _⟩ := hR.blk _ d e1
    refine ⟨x, cs, fz, ?_, by rw [e2]; exact k2, k3, e3 R cs k4, fun hw => by rw [ew] at hw; cases hw⟩
    unfold pull
    rw [if_pos e0]
    exact k1
theorem Con.readV (hE : EnvOk E) {g : FuncId} {fn : Func} {c : Code} {l l' : List SV} {m ms : SMem} {q : List Prop} {s0 : SV} {A : SV → SMem → Prop} (h1 : E.fn g = some fn) (h2 : fn.body = some c) (hxs : ms.xs = []) (ι : Nat → Nat)
    (hm : ∀ i b, getB ms.bl i = some b → i < ms.next ∧ b.wr = false ∧ ∃ d, getB m.bl (ι i) = some d ∧ b.ty = d.ty ∧ ∀ R cs, d.arr.okM R cs → b.arr.okM (pull ι ms.next R) cs)
    (hl : ∀ R vs, All2 (SV.ok R) l vs → All2 (SV.ok (pull ι ms.next R)) l' vs) (good : (∀ p ∈ q, p) → Good E.P A ms.next [callFr g fn.ntmps l' c] ms)
    (hs : ∀ s m' R R' v, A s m' → s.ok R' v → s0.ok R v) : Con E g l m (needs q (.ret s0 m)) := by
  intro B hB
  obtain ⟨hq, hA⟩ := Tree.sat_needs hB
  refine ⟨fn, h1, by rw [h2]; rfl, fun n0 F w0 w R args ha hR => ?_⟩
  refine (frame_ro (hE.fns _ _ h1).1 h2 (good hq) hxs hm (hl R _ ha) hR).mono ?_
  rintro v w' ⟨k1, k2, s, m', R', k3, k4⟩
  exact ⟨s0, m, R, hA, ⟨fun _ _ h => h, fun _ _ h => .inl h, k2, Nat.le_refl _⟩, k1, hs _ _ _ _ _ k3 k4⟩
omit [Gh] in
def madeA (n : Nat) (k : SN) (cap : SK) (a : SA) (ty : TypeId) (s : SV) (m : SMem) : Prop := ∃ id, n ≤ id ∧ s = .s (.c (.f (.slice id (.l 0) k cap))) ∧ getB m.bl id = some ⟨a, ty, true⟩
theorem Con.readN (hE : EnvOk E) {g : FuncId} {fn : Func} {c : Code} {l l' : List SV} {m ms : SMem} {q : List Prop} {k : SN} {cap : SK} {a : SA} {ty : TypeId} (h1 : E.fn g = some fn) (h2 : fn.body = some c) (hxs : ms.xs = []) (ι : Nat → Nat)
    (hm : ∀ i b, getB ms.bl i = some b → i < ms.next ∧ b.wr = false ∧ ∃ d, getB m.bl (ι i) = some d ∧ b.ty = d.ty ∧ ∀ R cs, d.arr.okM R cs → b.arr.okM (pull ι ms.next R) cs)
    (hl : ∀ R vs, All2 (SV.ok R) l vs → All2 (SV.ok (pull ι ms.next R)) l' vs) (ha : freeA a = true)
    (good : (∀ p ∈ q, p) → Good E.P (madeA ms.next k cap a ty) ms.next [callFr g fn.ntmps l' c] ms) :
    Con E g l m (needs q (.ret (.s (.c (.f (.slice m.next (.l 0) k cap)))) (m.new a ty))) := by
  intro B hB
  obtain ⟨hq, hA⟩ := Tree.sat_needs hB
  refine ⟨fn, h1, by rw [h2]; rfl, fun n0 F w0 w R args hal hR => ?_⟩
  refine (answers_of_good (hE.fns _ _ h1).1 h2 (good hq) (hl R _ hal) (rel_ro hxs hm hR)).mono ?_
  rintro v w' ⟨s, m', R', ⟨id, hid, rfl, hb0⟩, hX, hR', hv⟩
  obtain ⟨gl, cs, fz, e1, e2, e3, e4, e5⟩ := hR'.blk id _ hb0
  obtain ⟨e6, ez⟩ := e5 rfl
  have e7 : w.heap.size ≤ gl.b := e6.resolve_right fun x => x
  obtain ⟨R2, k1, k2, k3⟩ := hR.grow hR'.fr.to e7 (hR'.lt id gl e1) e2 e3 (free_ok (R' := R) ha e4) ez
  obtain ⟨g', cp, f1, rfl, f2, f3⟩ := hv
  rw [e1] at f1
  cases f1
  exact ⟨_, _, R2, hA, k1, k3, gl, cp, k2, rfl, f2, f3⟩
end
end Go.Proofs.YtjjeahnbppmigaaDoor
