/- Of the symbolic memory: what is new, what is written. No condition. -/
import Derived.Test.YtdbhbpkdefbibaaK4
namespace Go.Proofs.Ytdbhbpkdefbibaa

theorem getB_id : ∀ {l : List SBlk} {i : Nat} {b : SBlk}, getB l i = some b → b.id = i
  | [], _, _, h => by cases h
  | c :: l, i, b, h => by
    simp only [getB] at h
    split at h
    · rename_i e
      cases h
      simpa using e
    · exact getB_id h
theorem getB_put : ∀ (l : List SBlk) (i : Nat) (a : SA) (j : Nat), getB (putB l i a) j = if j = i then (getB l i).map fun b => ⟨b.id, a, b.ty, b.wr⟩ else getB l j
  | [], i, a, j => by simp [putB, getB]
  | c :: l, i, a, j => by
    simp only [putB]
    by_cases e : Nat.beq c.id i = true
    · have e' : c.id = i := by simpa using e
      rw [if_pos e]
      simp only [getB]
      by_cases hj : j = i
      · subst hj
        rw [if_pos e, if_pos rfl, if_pos e]
        rfl
      · have : ¬ Nat.beq c.id j = true := by simp; omega
        rw [if_neg this, getB_put l i a j, if_neg hj, if_neg hj, if_neg this]
    · rw [if_neg e]
      simp only [getB]
      by_cases hj : j = i
      · subst hj
        rw [if_neg e, getB_put l j a j, if_pos rfl, if_pos rfl, if_neg e]
      · rw [getB_put l i a j, if_neg hj, if_neg hj]

theorem ExtN.refl (w : World) (n : Nat) (R : Ren) : ExtN w w n n R R := ⟨Ext.refl R, fun _ _ h => .inl h, Nat.le_refl _, Nat.le_refl _⟩
theorem ExtN.same {w w' : World} (n : Nat) (R : Ren) (h : w.heap.size ≤ w'.heap.size) : ExtN w w' n n R R := ⟨Ext.refl R, fun _ _ h => .inl h, h, Nat.le_refl _⟩
theorem ExtN.trans {w w1 w2 : World} {n n1 n2 : Nat} {R R' R'' : Ren} (h : ExtN w w1 n n1 R R') (k : ExtN w1 w2 n1 n2 R' R'') : ExtN w w2 n n2 R R'' :=
  ⟨h.1.trans k.1, fun i g e => (k.2.1 i g e).elim (fun e => h.2.1 i g e) fun e => .inr ⟨Nat.le_trans h.2.2.1 e.1, Nat.le_trans h.2.2.2 e.2⟩, Nat.le_trans h.2.2.1 k.2.2.1, Nat.le_trans h.2.2.2 k.2.2.2⟩

section
variable {n0 : Nat} {F : Nat → Prop} {w0 w w' : World} {R : Ren} {m : SMem}
theorem BelowF.refl (n0 : Nat) (F : Nat → Prop) (w : World) : BelowF n0 F w w := ⟨rfl, rfl, rfl, Nat.le_refl _, fun _ _ _ => rfl⟩
theorem BelowF.trans {a b c : World} (h : BelowF n0 F a b) (k : BelowF n0 F b c) : BelowF n0 F a c :=
  ⟨k.os.trans h.os, k.tape.trans h.tape, k.output.trans h.output, Nat.le_trans h.size k.size, fun i hi hf => (k.block i hi hf).trans (h.block i hi hf)⟩
theorem BelowF.of (h : Go.RowKit.Below n0 w w') : BelowF n0 F w w' := ⟨h.os, h.tape, h.output, h.size, fun k hk _ => h.block k hk⟩
theorem BelowF.to (h : BelowF n0 (fun _ => False) w w') : Go.RowKit.Below n0 w w' := ⟨h.os, h.tape, h.output, h.size, fun k hk => h.block k hk id⟩
/-- What a step below the heap's end leaves. -/
theorem Rel.step (h : Rel n0 F w0 R m w) (hb : Go.RowKit.Below w.heap.size w w') : Rel n0 F w0 R m w' :=
  { inj := h.inj
    lt := fun i g e => Nat.lt_of_lt_of_le (h.lt i g e) hb.size
    nx := h.nx
    blk := fun i b hm => by
      obtain ⟨g, cs, fz, h1, h2, hs, h3, h4⟩ := h.blk i b hm
      exact ⟨g, cs, fz, h1, (hb.block g.b (h.lt _ _ h1)).trans h2, hs, h3, h4⟩
    base := Nat.le_trans h.base hb.size
    fr := h.fr.trans (BelowF.of (hb.mono h.base)) }
theorem Rel.drew (h : Rel n0 F w0 R m w) : Rel n0 F w0 R m w.drew := h.step (Go.RowKit.Below.refl _ _).drew

/-- A block more, at a number that was none. -/
theorem Rel.grow (h : Rel n0 F w0 R m w) {w' : World} {L : Loc} {a : SA} {cs : Array Value} {t : TypeId} (hb : Go.RowKit.Below w.heap.size w w') (hL : w.heap.size ≤ L.b) (hlt : L.b < w'.heap.size) (hg : w'.heap[L.b]? = some (.cells cs t (0, 0))) (hs : cs.size = L.n)
    (ha : a.ok R cs) : ∃ R', ExtN w w' m.next (m.next + 1) R R' ∧ R' m.next = some L ∧ Rel n0 F w0 R' (m.new a t) w' := by
  have hx : Ext R (fun i => if i = m.next then some L else R i) := by
    intro i g e
    have := h.nx i g e
    show (if i = m.next then some L else R i) = some g
    rw [if_neg (by omega)]
    exact e
  have hcase : ∀ {i g}, (if i = m.next then some L else R i) = some g → (i = m.next ∧ g = L) ∨ (i ≠ m.next ∧ R i = some g) := by
    intro i g e
    split at e
    · cases e; rename_i hi; exact .inl ⟨hi, rfl⟩
    · rename_i hi; exact .inr ⟨hi, e⟩
  have hget : ∀ {i b}, getB (m.new a t).bl i = some b → (i = m.next ∧ b = ⟨m.next, a, t, true⟩) ∨ (i ≠ m.next ∧ getB m.bl i = some b) := by
    intro i b e
    replace e : (if Nat.beq m.next i = true then some (⟨m.next, a, t, true⟩ : SBlk) else getB m.bl i) = some b := e
    split at e
    · rename_i hi
      have hi' : m.next = i := by simpa using hi
      cases e
      exact .inl ⟨hi'.symm, rfl⟩
    · rename_i hi
      exact .inr ⟨fun e' => hi (by simp [e']), e⟩
  refine ⟨_, ⟨hx, fun i g e => ?_, hb.size, by omega⟩, by simp, ?_⟩
  · rcases hcase e with ⟨h1, rfl⟩ | ⟨_, h2⟩
    · exact .inr ⟨hL, by omega⟩
    · exact .inl h2
  · refine ⟨?_, ?_, ?_, ?_, Nat.le_trans h.base hb.size, h.fr.trans (BelowF.of (hb.mono h.base))⟩
    · intro i j g k b c hi hj hgk hbi hcj hw
      rcases hcase hi with ⟨h1, rfl⟩ | ⟨h1, h2⟩ <;> rcases hcase hj with ⟨k1, rfl⟩ | ⟨k1, k2⟩
      · omega
      · have := h.lt _ _ k2; omega
      · have := h.lt _ _ h2; omega
      · rcases hget hbi with ⟨e1, _⟩ | ⟨_, e1⟩
        · exact (h1 e1).elim
        · rcases hget hcj with ⟨e2, _⟩ | ⟨_, e2⟩
          · exact (k1 e2).elim
          · exact h.inj i j g k b c h2 k2 hgk e1 e2 hw
    · intro i g hi
      rcases hcase hi with ⟨_, rfl⟩ | ⟨_, h2⟩
      · exact hlt
      · exact Nat.lt_of_lt_of_le (h.lt _ _ h2) hb.size
    · intro i g hi
      show i < m.next + 1
      rcases hcase hi with ⟨h1, _⟩ | ⟨_, h2⟩
      · omega
      · have := h.nx _ _ h2; omega
    · intro i b hbi
      rcases hget hbi with ⟨rfl, rfl⟩ | ⟨h1, h2⟩
      · exact ⟨L, cs, (0, 0), by simp, hg, hs, SA.monoM hx (SA.okM_of ha), fun _ => ⟨.inl (Nat.le_trans h.base hL), rfl⟩⟩
      · obtain ⟨g, c, fz, k1, k2, k3, k4, k5⟩ := h.blk i b h2
        exact ⟨g, c, fz, hx _ _ k1, (hb.block g.b (h.lt _ _ k1)).trans k2, k3, SA.monoM hx k4, k5⟩
theorem Rel.new (h : Rel n0 F w0 R m w) {a : SA} {cs : Array Value} (ha : a.ok R cs) (t : TypeId) :
    ∃ R', ExtN w (w.alloc (.cells cs t)) m.next (m.next + 1) R R' ∧ R' m.next = some ⟨w.heap.size, cs.size⟩ ∧ Rel n0 F w0 R' (m.new a t) (w.alloc (.cells cs t)) :=
  h.grow ((Go.RowKit.Below.refl _ _).alloc (Nat.le_refl _) _) (Nat.le_refl _) (by simp) (heap_alloc_new w _) rfl ha

theorem Rel.set (h : Rel n0 F w0 R m w) {id : Nat} {b : SBlk} (hb : getB m.bl id = some b) (hw : b.wr = true) :
    ∃ g cs, R id = some g ∧ w.heap[g.b]? = some (.cells cs b.ty (0, 0)) ∧ cs.size = g.n ∧ b.arr.okM R cs ∧
      ∀ r cs', SA.ok R r cs' → cs'.size = cs.size → Rel n0 F w0 R ⟨m.next, putB m.bl id r⟩ (w.setRow g.b cs') := by
  obtain ⟨g, cs, fz, h1, h2, hs, h3, h4⟩ := h.blk id b hb
  obtain ⟨hF, rfl⟩ := h4 hw
  have hget : ∀ {r i c}, getB (putB m.bl id r) i = some c → (i = id ∧ c = ⟨b.id, r, b.ty, b.wr⟩) ∨ (i ≠ id ∧ getB m.bl i = some c) := by
    intro r i c hc
    rw [getB_put] at hc
    split at hc
    · rename_i e
      subst e
      rw [hb] at hc
      simp only [Option.map_some, Option.some.injEq] at hc
      exact .inl ⟨rfl, hc.symm⟩
    · rename_i e
      exact .inr ⟨e, hc⟩
  refine ⟨g, cs, h1, h2, hs, h3, fun r cs' hr hsz => ⟨?_, by simpa using h.lt, h.nx, ?_, by simpa using h.base, ?_⟩⟩
  · intro i j gi gj x y hi hj hg hx hy hwr
    have old : ∀ {i x}, getB (putB m.bl id r) i = some x → ∃ x', getB m.bl i = some x' ∧ x'.wr = x.wr := by
      intro i x hx
      rcases hget hx with ⟨rfl, rfl⟩ | ⟨_, h2⟩
      · exact ⟨b, hb, rfl⟩
      · exact ⟨x, h2, rfl⟩
    obtain ⟨x', k1, k2⟩ := old hx
    obtain ⟨y', k3, k4⟩ := old hy
    exact h.inj i j gi gj x' y' hi hj hg k1 k3 (by rw [k2, k4]; exact hwr)
  · intro i c hc
    rcases hget hc with ⟨rfl, rfl⟩ | ⟨hne, hc⟩
    · exact ⟨g, cs', (0, 0), h1, setRow_heap w g.b cs cs' b.ty (0, 0) h2, by rw [hsz, hs], SA.okM_of hr, fun _ => ⟨hF, rfl⟩⟩
    · obtain ⟨g', c', fz', k1, k2, k3, k4, k5⟩ := h.blk i c hc
      have hg : g'.b ≠ g.b := by
        intro e
        exact hne (h.inj _ _ _ _ _ _ k1 h1 e hc hb (.inr hw))
      exact ⟨g', c', fz', k1, by rw [setRow_other w g.b g'.b cs' hg]; exact k2, k3, k4, k5⟩
  · exact h.fr.trans ⟨rfl, rfl, rfl, by simp, fun k hk hf => setRow_other w g.b k cs' (fun e => by
      subst e
      rcases hF with hF | hF
      · omega
      · exact hf hF)⟩
theorem getB_drop : ∀ (l : List SBlk) (i j : Nat), getB (dropB l i) j = if j = i then none else getB l j
  | [], i, j => by simp [dropB, getB]
  | c :: l, i, j => by
    simp only [dropB]
    by_cases e : Nat.beq c.id i = true
    · have e' : c.id = i := by simpa using e
      rw [if_pos e, getB_drop l i j]
      by_cases hj : j = i
      · rw [if_pos hj, if_pos hj]
      · have : ¬ Nat.beq c.id j = true := by simp; omega
        rw [if_neg hj, if_neg hj]
        simp only [getB]
        rw [if_neg this]
    · rw [if_neg e]
      simp only [getB]
      rw [getB_drop l i j]
      by_cases hj : j = i
      · subst hj
        rw [if_neg e, if_pos rfl, if_pos rfl]
      · rw [if_neg hj, if_neg hj]
/-- A block is left out of sight. -/
theorem Rel.drop (h : Rel n0 F w0 R m w) (id : Nat) : Rel n0 F w0 R ⟨m.next, dropB m.bl id⟩ w := by
  have hget : ∀ {i c}, getB (dropB m.bl id) i = some c → i ≠ id ∧ getB m.bl i = some c := by
    intro i c hc
    rw [getB_drop] at hc
    split at hc
    · cases hc
    · rename_i e; exact ⟨e, hc⟩
  exact ⟨fun i j g k b c h1 h2 h3 h4 h5 => h.inj i j g k b c h1 h2 h3 (hget h4).2 (hget h5).2, h.lt, h.nx, fun i b hb => h.blk i b (hget hb).2, h.base, h.fr⟩
/-- A block gets a number more, and is seen by that one alone. -/
theorem Rel.again (h : Rel n0 F w0 R m w) {id : Nat} {b : SBlk} (hb : getB m.bl id = some b) (hw : b.wr = true) :
    ∃ g cs, R id = some g ∧ w.heap[g.b]? = some (.cells cs b.ty (0, 0)) ∧ cs.size = g.n ∧ b.arr.okM R cs ∧
      ∀ r cs', SA.ok R r cs' → cs'.size = cs.size → ∃ R', Ext R R' ∧ R' m.next = some g ∧ (∀ i k, R' i = some k → R i = some k ∨ (i = m.next ∧ k = g)) ∧
        Rel n0 F w0 R' ⟨m.next + 1, ⟨m.next, r, b.ty, true⟩ :: dropB m.bl id⟩ (w.setRow g.b cs') := by
  obtain ⟨g, cs, h1, h2, hs, h3, hset⟩ := h.set hb hw
  refine ⟨g, cs, h1, h2, hs, h3, fun r cs' hr hsz => ?_⟩
  have H := hset r cs' hr hsz
  have hid : id < m.next := h.nx _ _ h1
  have hx : Ext R (fun i => if i = m.next then some g else R i) := by
    intro i k e
    have := h.nx i k e
    show (if i = m.next then some g else R i) = some k
    rw [if_neg (by omega)]
    exact e
  have hcase : ∀ {i k}, (if i = m.next then some g else R i) = some k → (i = m.next ∧ k = g) ∨ (i ≠ m.next ∧ R i = some k) := by
    intro i k e
    split at e
    · cases e; rename_i hi; exact .inl ⟨hi, rfl⟩
    · rename_i hi; exact .inr ⟨hi, e⟩
  have hput : getB (putB m.bl id r) id = some ⟨b.id, r, b.ty, b.wr⟩ := by rw [getB_put, if_pos rfl, hb]; rfl
  have hget : ∀ {i c}, getB (⟨m.next, r, b.ty, true⟩ :: dropB m.bl id) i = some c → (i = m.next ∧ c = ⟨m.next, r, b.ty, true⟩) ∨ (i ≠ m.next ∧ i ≠ id ∧ getB (putB m.bl id r) i = some c) := by
    intro i c e
    replace e : (if Nat.beq m.next i = true then some (⟨m.next, r, b.ty, true⟩ : SBlk) else getB (dropB m.bl id) i) = some c := e
    split at e
    · rename_i hi
      have hi' : m.next = i := by simpa using hi
      cases e
      exact .inl ⟨hi'.symm, rfl⟩
    · rename_i hi
      rw [getB_drop] at e
      split at e
      · cases e
      · rename_i hne
        exact .inr ⟨fun e' => hi (by simp [e']), hne, by rw [getB_put, if_neg hne]; exact e⟩
  refine ⟨_, hx, by simp, fun i k e => (hcase e).elim .inr fun h => .inl h.2, ?_, ?_, ?_, ?_, H.base, H.fr⟩
  · intro i j gi gj x y hi hj hg hbx hby hwr
    rcases hcase hi with ⟨e1, rfl⟩ | ⟨e1, k1⟩ <;> rcases hcase hj with ⟨e2, rfl⟩ | ⟨e2, k2⟩
    · omega
    · rcases hget hby with ⟨e3, _⟩ | ⟨_, e3, e4⟩
      · exact (e2 e3).elim
      · exact (e3 (H.inj j id _ _ _ _ k2 h1 hg.symm e4 hput (.inr hw))).elim
    · rcases hget hbx with ⟨e3, _⟩ | ⟨_, e3, e4⟩
      · exact (e1 e3).elim
      · exact (e3 (H.inj i id _ _ _ _ k1 h1 hg e4 hput (.inr hw))).elim
    · rcases hget hbx with ⟨e3, _⟩ | ⟨_, _, e4⟩
      · exact (e1 e3).elim
      · rcases hget hby with ⟨e5, _⟩ | ⟨_, _, e6⟩
        · exact (e2 e5).elim
        · exact H.inj i j _ _ _ _ k1 k2 hg e4 e6 hwr
  · intro i k hi
    rcases hcase hi with ⟨_, rfl⟩ | ⟨_, k1⟩
    · exact H.lt _ _ h1
    · exact H.lt _ _ k1
  · intro i k hi
    show i < m.next + 1
    rcases hcase hi with ⟨e, _⟩ | ⟨_, k1⟩
    · omega
    · have := h.nx _ _ k1; omega
  · intro i c hc
    rcases hget hc with ⟨rfl, rfl⟩ | ⟨_, _, e4⟩
    · obtain ⟨g', c', fz, k1, k2, k3, k4, k5⟩ := H.blk id _ hput
      rw [h1] at k1
      cases k1
      exact ⟨g, c', fz, by simp, k2, k3, SA.monoM hx k4, fun _ => k5 hw⟩
    · obtain ⟨g', c', fz, k1, k2, k3, k4, k5⟩ := H.blk i c e4
      exact ⟨g', c', fz, hx _ _ k1, k2, k3, SA.monoM hx k4, k5⟩
end

/-- An operation's end: a value, or none. -/
def Ends (P : Program) (a : Act) (o : Oper) (w w' : World) (v : Value) : Prop :=
  (execOp a.eval o).run P w = .ok (.value v) w' ∨ ((execOp a.eval o).run P w = .ok .skip w' ∧ v = undef)
end Go.Proofs.Ytdbhbpkdefbibaa
