/- Functions that read blocks of which no place is known, but what is in them. No condition. -/
import Derived.Test.YtjjeahnbppmigaaDoorK27
import Derived.Test.YtjjeahnbppmigaaDoorK30
set_option linter.unusedVariables false
set_option linter.unusedSimpArgs false
namespace Go.Proofs.YtjjeahnbppmigaaDoor
set_option linter.unusedSectionVars false
variable [Gh]
/-- What is seen of a memory: blocks that are not written there. -/
theorem Rel.sees {n0 : Nat} {F : Nat → Prop} {w0 w : World} {R Rs : Ren} {m ms : SMem} (hR : Rel n0 F w0 R m w) (hxs : ms.xs = []) (hi : ∀ i g, Rs i = some g → i < ms.next ∧ g.b < w.heap.size)
    (hb : ∀ i b, getB ms.bl i = some b → b.wr = false ∧ ∃ g cs fz, Rs i = some g ∧ w.heap[g.b]? = some (.cells cs b.ty fz) ∧ cs.size = g.n ∧ b.arr.okM Rs cs) : Rel w.heap.size (fun _ => False) w Rs ms w := by
  refine ⟨fun i j x y b d h1 h2 h3 h4 h5 h6 => ?_, fun i x h => (hi i x h).2, fun i x h => (hi i x h).1, fun i b hb' => ?_, Nat.le_refl _, BelowF.refl _ _ _, fun i x hx => (by rw [hxs] at hx; cases hx), fun i j g h x y _ _ _ hx => (by rw [hxs] at hx; cases hx), fun g cs hg => ?_⟩
  rotate_right
  · obtain ⟨g1, g2, cs', ty, fz, g3, g4⟩ := hR.gl g cs hg
    exact ⟨Nat.lt_of_lt_of_le g1 hR.base, fun h => h, cs', ty, fz, (hR.fr.block g g1 g2).trans g3, g4⟩
  · rw [(hb i b h4).1, (hb j d h5).1] at h6
    simp at h6
  · obtain ⟨ew, g, cs, fz, k1, k2, k3, k4⟩ := hb i b hb'
    exact ⟨g, cs, fz, k1, k2, k3, k4, fun hw => by rw [ew] at hw; cases hw⟩
/-- A block that is known, in a world. -/
theorem Rel.there {n0 : Nat} {F : Nat → Prop} {w0 w : World} {R : Ren} {m : SMem} (hR : Rel n0 F w0 R m w) {b : Nat} {cs : List Value} (h : GlP b cs) : b < w.heap.size ∧ ∃ ty fz, w.heap[b]? = some (.cells cs.toArray ty fz) := by
  obtain ⟨h1, h2, cs', ty, fz, h3, h4, h5⟩ := hR.gl b cs h
  have e : cs' = cs.toArray := Array.ext_getElem? fun i => by
    by_cases hi : i < cs.length
    · rw [h5 i hi]; simp
    · rw [Array.getElem?_eq_none (by omega), Array.getElem?_eq_none (by simp; omega)]
  rw [e] at h3
  exact ⟨Nat.lt_of_lt_of_le h1 hR.base, ty, fz, (hR.fr.block b h1 h2).trans h3⟩
/-- A memory in which there is one block, which is read. -/
noncomputable def seeM (cs : List Value) (ty : TypeId) : SMem := ⟨1, Tr.nil.set 0 (some ⟨.raw cs.toArray, ty, false⟩), []⟩
def seeR (b n : Nat) : Ren := fun i => if i = 0 then some ⟨b, n⟩ else none
theorem seeM_get {cs : List Value} {ty : TypeId} {i : Nat} {x : SBlk} (h : getB (seeM cs ty).bl i = some x) : i = 0 ∧ x = ⟨.raw cs.toArray, ty, false⟩ := by
  have h : getB (Tr.nil.set 0 (some ⟨.raw cs.toArray, ty, false⟩)) i = some x := h
  rw [getB_set] at h
  split at h
  · rename_i e
    cases h
    exact ⟨e, rfl⟩
  · have h : (Tr.nil : Tr SBlk).get i = some x := h
    rw [Tr.get_nil] at h
    cases h
theorem Rel.see1 {n0 : Nat} {F : Nat → Prop} {w0 w : World} {R : Ren} {m : SMem} (hR : Rel n0 F w0 R m w) {b : Nat} {cs : List Value} (h : GlP b cs) : ∃ ty, Rel w.heap.size (fun _ => False) w (seeR b cs.length) (seeM cs ty) w := by
  obtain ⟨h1, ty, fz, h2⟩ := hR.there h
  refine ⟨ty, hR.sees rfl (fun i g e => ?_) fun i x hx => ?_⟩
  · unfold seeR at e
    split at e
    · cases e; rename_i hi; subst hi; exact ⟨Nat.zero_lt_one, h1⟩
    · cases e
  · obtain ⟨rfl, rfl⟩ := seeM_get hx
    exact ⟨rfl, ⟨b, cs.length⟩, cs.toArray, fz, rfl, h2, by simp, rfl⟩
/-- How the arguments look where the function looks. -/
def Looks (l l' : List SV) (m : SMem) (ms : TypeId → SMem) : Prop :=
  ∀ (n0 : Nat) (F : Nat → Prop) (w0 w : World) (R : Ren) (vs : List Value), Rel n0 F w0 R m w → All2 (SV.ok R) l vs → ∃ ty Rs, All2 (SV.ok Rs) l' vs ∧ Rel w.heap.size (fun _ => False) w Rs (ms ty) w
theorem Con.seeV {E : Env} (hE : EnvOk E) {g : FuncId} {fn : Func} {c : Code} {l l' : List SV} {m : SMem} {ms : TypeId → SMem} {q : List Prop} {s0 : SV} {A : SV → SMem → Prop} (h1 : E.fn g = some fn) (h2 : fn.body = some c)
    (hl : (∀ p ∈ q, p) → Looks l l' m ms) (good : (∀ p ∈ q, p) → ∀ ty, Good E.P A (ms ty).next [callFr g fn.ntmps l' c] (ms ty))
    (hs : ∀ s m' R R' v, A s m' → s.ok R' v → s0.ok R v) : Con E g l m (needs q (.ret s0 m)) := by
  intro B hB
  obtain ⟨hq, hA⟩ := Tree.sat_needs hB
  refine ⟨fn, h1, by rw [h2]; rfl, fun n0 F w0 w R args ha hR => ?_⟩
  obtain ⟨ty, Rs, k1, k2⟩ := hl hq n0 F w0 w R _ hR ha
  refine (answers_of_good (hE.fns _ _ h1).1 h2 (good hq ty) k1 k2).mono ?_
  rintro v w' ⟨s, m', R', k3, hX, hR', hv⟩
  exact ⟨s0, m, R, hA, ⟨fun _ _ h => h, fun _ _ h => .inl h, hX.2.2.1, Nat.le_refl _⟩, hR.step hR'.fr.to, hs _ _ _ _ _ k3 hv⟩
theorem Con.seeN {E : Env} (hE : EnvOk E) {g : FuncId} {fn : Func} {c : Code} {l l' : List SV} {m : SMem} {ms : TypeId → SMem} {q : List Prop} {k : SN} {cap : SK} {a : SA} {ty : TypeId} (h1 : E.fn g = some fn) (h2 : fn.body = some c)
    (hl : (∀ p ∈ q, p) → Looks l l' m ms) (ha : freeA a = true) (good : (∀ p ∈ q, p) → ∀ t, Good E.P (madeA (ms t).next k cap a ty) (ms t).next [callFr g fn.ntmps l' c] (ms t)) :
    Con E g l m (needs q (.ret (.s (.c (.f (.slice m.next (.l 0) k cap)))) (m.new a ty))) := by
  intro B hB
  obtain ⟨hq, hA⟩ := Tree.sat_needs hB
  refine ⟨fn, h1, by rw [h2]; rfl, fun n0 F w0 w R args hal hR => ?_⟩
  obtain ⟨t, Rs, k1, k2⟩ := hl hq n0 F w0 w R _ hR hal
  refine (answers_of_good (hE.fns _ _ h1).1 h2 (good hq t) k1 k2).mono ?_
  rintro v w' ⟨s, m', R', ⟨id, hid, rfl, hb0⟩, hX, hR', hv⟩
  obtain ⟨gl, cs, fz, e1, e2, e3, e4, e5⟩ := hR'.blk id _ hb0
  obtain ⟨e6, ez⟩ := e5 rfl
  have e7 : w.heap.size ≤ gl.b := e6.resolve_right fun x => x
  obtain ⟨R2, k1, k2, k3⟩ := hR.grow hR'.fr.to e7 (hR'.lt id gl e1) e2 e3 (free_ok (R' := R) ha e4) ez
  obtain ⟨g', cp, f1, rfl, f2, f3⟩ := hv
  rw [e1] at f1
  cases f1
  exact ⟨_, _, R2, hA, k1, k3, gl, cp, k2, rfl, f2, f3⟩
/-- A slice whose cells are known: empty, or so many cells from a place of a block that is known. -/
def SlK (v : Value) (sz : Nat) (row : List Value) : Prop :=
  (∃ a c, v = .slice a 0 c ∧ row = []) ∨ ∃ b off n c cs, v = .slice (some ⟨b, off, none⟩) n c ∧ GlP b cs ∧ off + n * sz ≤ cs.length ∧ row = (cs.drop off).take (n * sz) ∧ n ≤ c ∧ c ≤ maxLen
/-- An argument of which no place is known, seen as a slice of the one block. -/
theorem Looks.opq {m : SMem} {b off n c : Nat} {cs : List Value} (h : GlP b cs) (hc : n ≤ c) : Looks [.s (.c (.f (.opq (.slice (some ⟨b, off, none⟩) n c))))] [.s (.c (.f (.slice 0 (.o off) (.o n) .any)))] m (seeM cs) := by
  intro n0 F w0 w R vs hR hv
  obtain ⟨ty, hS⟩ := hR.see1 h
  refine ⟨ty, _, ?_, hS⟩
  match vs, hv with
  | [v], hv =>
    obtain ⟨⟨rfl, _⟩, _⟩ := hv
    exact ⟨⟨_, c, rfl, rfl, trivial, hc⟩, trivial⟩
/-- The same within a struct of cells. -/
theorem Looks.aggOpq {m : SMem} {b off n c : Nat} {cs : List Value} {x y : List SC} (h : GlP b cs) (hc : n ≤ c) (hx : ∀ d ∈ x, ∀ (R R' : Ren) v, d.ok R v → d.ok R' v) (hy : ∀ d ∈ y, ∀ (R R' : Ren) v, d.ok R v → d.ok R' v) :
    Looks [.s (.agg (.ls (x ++ .f (.opq (.slice (some ⟨b, off, none⟩) n c)) :: y)))] [.s (.agg (.ls (x ++ .f (.slice 0 (.o off) (.o n) .any) :: y)))] m (seeM cs) := by
  have all : ∀ {R R' : Ren} {z : List SC} {v : List Value}, (∀ d ∈ z, ∀ (R R' : Ren) v, d.ok R v → d.ok R' v) → All2 (SC.ok R) z v → All2 (SC.ok R') z v := by
    intro R R' z
    induction z with
    | nil => intro v _ hv; cases v with | nil => trivial | cons _ _ => exact hv.elim
    | cons d z ih =>
      intro v hz hv
      match v, hv with
      | u :: v, hv => exact ⟨hz d (List.mem_cons_self ..) _ _ _ hv.1, ih (fun d hd => hz d (List.mem_cons_of_mem _ hd)) hv.2⟩
  have go : ∀ {R R' : Ren}, R' 0 = some ⟨b, cs.length⟩ → ∀ (p : List SC) {v : List Value}, (∀ d ∈ p, ∀ (R R' : Ren) v, d.ok R v → d.ok R' v) →
      All2 (SC.ok R) (p ++ .f (.opq (.slice (some ⟨b, off, none⟩) n c)) :: y) v → All2 (SC.ok R') (p ++ .f (.slice 0 (.o off) (.o n) .any) :: y) v := by
    intro R R' h0 p
    induction p with
    | nil =>
      intro v _ hv
      match v, hv with
      | u :: v, hv =>
        obtain ⟨⟨rfl, _⟩, hv⟩ := hv
        exact ⟨⟨_, c, h0, rfl, trivial, hc⟩, all hy hv⟩
    | cons d p ih =>
      intro v hp hv
      match v, hv with
      | u :: v, hv => exact ⟨hp d (List.mem_cons_self ..) _ _ _ hv.1, ih (fun d hd => hp d (List.mem_cons_of_mem _ hd)) hv.2⟩
  intro n0 F w0 w R vs hR hv
  obtain ⟨ty, hS⟩ := hR.see1 h
  refine ⟨ty, _, ?_, hS⟩
  match vs, hv with
  | [v], hv =>
    obtain ⟨⟨cs', rfl, hv⟩, _⟩ := hv
    exact ⟨⟨cs', rfl, go rfl x hx hv⟩, trivial⟩
end Go.Proofs.YtjjeahnbppmigaaDoor
