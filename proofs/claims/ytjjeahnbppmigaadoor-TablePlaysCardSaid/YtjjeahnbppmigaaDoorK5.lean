/- Of the symbolic memory: what is new, what is written. No condition. -/
import Derived.Test.YtjjeahnbppmigaaDoorK4
import Derived.RangeFuncRecord
set_option linter.unusedVariables false
set_option linter.unusedSimpArgs false
namespace Go.Proofs.YtjjeahnbppmigaaDoor
set_option linter.unusedSectionVars false
variable [Gh]

omit [Gh] in
theorem getB_put (l : Tr SBlk) (i : Nat) (a : SA) (j : Nat) : getB (putB l i a) j = if j = i then (getB l i).map fun b => ⟨a, b.ty, b.wr⟩ else getB l j := by
  unfold putB getB
  cases h : l.get i with
  | none =>
    dsimp only
    by_cases e : j = i
    · subst e; rw [if_pos rfl, h]; rfl
    · rw [if_neg e]
  | some b =>
    dsimp only
    rw [Tr.get_set]
    rfl
omit [Gh] in
theorem getB_set (l : Tr SBlk) (i : Nat) (x : Option SBlk) (j : Nat) : getB (l.set i x) j = if j = i then x else getB l j := Tr.get_set l i x j
omit [Gh] in
theorem getB_drop (l : Tr SBlk) (i j : Nat) : getB (dropB l i) j = if j = i then none else getB l j := Tr.get_set l i none j

omit [Gh] in
theorem ExtN.refl (w : World) (n : Nat) (R : Ren) : ExtN w w n n R R := ⟨Ext.refl R, fun _ _ h => .inl h, Nat.le_refl _, Nat.le_refl _⟩
omit [Gh] in
theorem ExtN.same {w w' : World} (n : Nat) (R : Ren) (h : w.heap.size ≤ w'.heap.size) : ExtN w w' n n R R := ⟨Ext.refl R, fun _ _ h => .inl h, h, Nat.le_refl _⟩
omit [Gh] in
theorem ExtN.trans {w w1 w2 : World} {n n1 n2 : Nat} {R R' R'' : Ren} (h : ExtN w w1 n n1 R R') (k : ExtN w1 w2 n1 n2 R' R'') : ExtN w w2 n n2 R R'' :=
  ⟨h.1.trans k.1, fun i g e => (k.2.1 i g e).elim (fun e => h.2.1 i g e) fun e => .inr ⟨Nat.le_trans h.2.2.1 e.1, Nat.le_trans h.2.2.2 e.2⟩, Nat.le_trans h.2.2.1 k.2.2.1, Nat.le_trans h.2.2.2 k.2.2.2⟩

section
variable {n0 : Nat} {F : Nat → Prop} {w0 w w' : World} {R : Ren} {m : SMem}
omit [Gh] in
theorem BelowF.refl (n0 : Nat) (F : Nat → Prop) (w : World) : BelowF n0 F w w := ⟨rfl, rfl, rfl, Nat.le_refl _, fun _ _ _ => rfl, fun _ cs _ _ _ h => ⟨cs, h⟩⟩
omit [Gh] in
theorem BelowF.trans {a b c : World} (h : BelowF n0 F a b) (k : BelowF n0 F b c) : BelowF n0 F a c :=
  ⟨k.os.trans h.os, k.tape.trans h.tape, k.output.trans h.output, Nat.le_trans h.size k.size, fun i hi hf => (k.block i hi hf).trans (h.block i hi hf), fun i cs ty fz hi hc => by
    obtain ⟨cs1, h1⟩ := h.froz i cs ty fz hi hc
    exact k.froz i cs1 ty fz hi h1⟩
omit [Gh] in
theorem BelowF.of (h : Go.RowKit.Below n0 w w') : BelowF n0 F w w' := ⟨h.os, h.tape, h.output, h.size, fun k hk _ => h.block k hk, fun k cs ty fz hk hc => ⟨cs, (h.block k hk).trans hc⟩⟩
omit [Gh] in
theorem BelowF.to (h : BelowF n0 (fun _ => False) w w') : Go.RowKit.Below n0 w w' := ⟨h.os, h.tape, h.output, h.size, fun k hk => h.block k hk id⟩
theorem Rel.xi' (h : Rel n0 F w0 R m w) {R' : Ren} (hx : Ext R R') : ∀ i j g k x y, R' i = some g → R' j = some k → g.b = k.b → getX m.xs i = some x → getX m.xs j = some y → i = j := by
  intro i j gi gj x y hi hj hg hx' hy'
  obtain ⟨gi', _, h1, _⟩ := h.xo i x hx'
  obtain ⟨gj', _, h2, _⟩ := h.xo j y hy'
  have e1 : some gi = some gi' := hi.symm.trans (hx _ _ h1)
  have e2 : some gj = some gj' := hj.symm.trans (hx _ _ h2)
  cases e1
  cases e2
  exact h.xi i j _ _ x y h1 h2 hg hx' hy'
theorem Rel.xoN (h : Rel n0 F w0 R m w) (hF : ∀ k, F k → ∃ cs ty fz, w0.heap[k]? = some (.cells cs ty fz)) : ∀ i x, getX m.xs i = some x → ∃ g o, R i = some g ∧ w.heap[g.b]? = some o ∧ x.ok R o ∧ (x.own = true → n0 ≤ g.b) := by
  intro i x hx
  obtain ⟨g, o, h1, h2, h3, h4⟩ := h.xo i x hx
  refine ⟨g, o, h1, h2, h3, fun e => ?_⟩
  rcases h4 e with h5 | h5
  · exact h5
  · rcases Nat.lt_or_ge g.b n0 with c | c
    · obtain ⟨cs, ty, fz, k1⟩ := hF _ h5
      obtain ⟨cs', k2⟩ := h.fr.froz g.b cs ty fz c k1
      rw [h2] at k2
      cases k2
      exact (XO.not_cells h3 rfl).elim
    · exact c
theorem Rel.xoL (h : Rel n0 F w0 R m w) {F' : Nat → Prop} (hF : ∀ k, F k → ∃ cs ty fz, w0.heap[k]? = some (.cells cs ty fz)) : ∀ i x, getX m.xs i = some x → ∃ g o, R i = some g ∧ w.heap[g.b]? = some o ∧ x.ok R o ∧ (x.own = true → n0 ≤ g.b ∨ F' g.b) := by
  intro i x hx
  obtain ⟨g, o, k1, k2, k3, k4⟩ := h.xoN hF i x hx
  exact ⟨g, o, k1, k2, k3, fun e => .inl (k4 e)⟩
theorem Rel.step (h : Rel n0 F w0 R m w) (hb : Go.RowKit.Below w.heap.size w w') : Rel n0 F w0 R m w' :=
  { inj := h.inj
    lt := fun i g e => Nat.lt_of_lt_of_le (h.lt i g e) hb.size
    nx := h.nx
    blk := fun i b hm => by
      obtain ⟨g, cs, fz, h1, h2, hs, h3, h4⟩ := h.blk i b hm
      exact ⟨g, cs, fz, h1, (hb.block g.b (h.lt _ _ h1)).trans h2, hs, h3, h4⟩
    base := Nat.le_trans h.base hb.size
    fr := h.fr.trans (BelowF.of (hb.mono h.base))
    xo := fun i x hx => by
      obtain ⟨g, o, h1, h2, h3, h4⟩ := h.xo i x hx
      exact ⟨g, o, h1, (hb.block g.b (h.lt _ _ h1)).trans h2, h3, h4⟩
    xi := h.xi
    gl := h.gl }
theorem Rel.drew (h : Rel n0 F w0 R m w) : Rel n0 F w0 R m w.drew := h.step (Go.RowKit.Below.refl _ _).drew

theorem Rel.grow (h : Rel n0 F w0 R m w) {w' : World} {L : Loc} {a : SA} {cs : Array Value} {t : TypeId} (hb : Go.RowKit.Below w.heap.size w w') (hL : w.heap.size ≤ L.b) (hlt : L.b < w'.heap.size) {fz : Nat × Nat} (hg : w'.heap[L.b]? = some (.cells cs t fz)) (hs : cs.size = L.n)
    (ha : a.ok R cs) (hz : FzOk fz cs.size := by exact .inl rfl) : ∃ R', ExtN w w' m.next (m.next + 1) R R' ∧ R' m.next = some L ∧ Rel n0 F w0 R' (m.new a t) w' := by
  have hx : Ext R (fun i => if i = m.next then some L else R i) := by
    intro i g e
    have := h.nx i g e
    show (if i = m.next then some L else R i) = some g
    rw [if_neg (by omega)]
    exact e
  have hcase : ∀ {i g}, (if i = m.next then some L else R i) = some g → (i = m.next ∧ g = L) ∨ (i ≠ m.next ∧ R i = some g) := by
    intro i g e
    split at e
    · cases e; rename_i hi; exact .inl ⟨hi, rfl⟩
    · rename_i hi; exact .inr ⟨hi, e⟩
  have hget : ∀ {i b}, getB (m.new a t).bl i = some b → (i = m.next ∧ b = ⟨a, t, true⟩) ∨ (i ≠ m.next ∧ getB m.bl i = some b) := by
    intro i b e
    have e : getB (m.bl.set m.next (some ⟨a, t, true⟩)) i = some b := e
    rw [getB_set] at e
    split at e
    · rename_i hi
      cases e
      exact .inl ⟨hi, rfl⟩
    · rename_i hi
      exact .inr ⟨hi, e⟩
  refine ⟨_, ⟨hx, fun i g e => ?_, hb.size, by omega⟩, by simp, ?_⟩
  · rcases hcase e with ⟨h1, rfl⟩ | ⟨_, h2⟩
    · exact .inr ⟨hL, by omega⟩
    · exact .inl h2
  · refine ⟨?_, ?_, ?_, ?_, Nat.le_trans h.base hb.size, h.fr.trans (BelowF.of (hb.mono h.base)), ?_, ?_, h.gl⟩
    rotate_left 4
    · intro i x hx'
      obtain ⟨g, o, h1, h2, h3, h4⟩ := h.xo i x hx'
      exact ⟨g, o, hx _ _ h1, (hb.block g.b (h.lt _ _ h1)).trans h2, XO.mono hx h3, h4⟩
    · exact h.xi' hx
    · intro i j g k b c hi hj hgk hbi hcj hw
      rcases hcase hi with ⟨h1, rfl⟩ | ⟨h1, h2⟩ <;> rcases hcase hj with ⟨k1, rfl⟩ | ⟨k1, k2⟩
      · omega
      · have := h.lt _ _ k2; omega
      · have := h.lt _ _ h2; omega
      · rcases hget hbi with ⟨e1, _⟩ | ⟨_, e1⟩
        · exact (h1 e1).elim
        · rcases hget hcj with ⟨e2, _⟩ | ⟨_, e2⟩
          · exact (k1 e2).elim
          · exact h.inj i j g k b c h2 k2 hgk e1 e2 hw
    · intro i g hi
      rcases hcase hi with ⟨_, rfl⟩ | ⟨_, h2⟩
      · exact hlt
      · exact Nat.lt_of_lt_of_le (h.lt _ _ h2) hb.size
    · intro i g hi
      show i < m.next + 1
      rcases hcase hi with ⟨h1, _⟩ | ⟨_, h2⟩
      · omega
      · have := h.nx _ _ h2; omega
    · intro i b hbi
      rcases hget hbi with ⟨rfl, rfl⟩ | ⟨h1, h2⟩
      · exact ⟨L, cs, fz, by simp, hg, hs, SA.monoM hx (SA.okM_of ha), fun _ => ⟨.inl (Nat.le_trans h.base hL), hz⟩⟩
      · obtain ⟨g, c, fz, k1, k2, k3, k4, k5⟩ := h.blk i b h2
        exact ⟨g, c, fz, hx _ _ k1, (hb.block g.b (h.lt _ _ k1)).trans k2, k3, SA.monoM hx k4, k5⟩
theorem Rel.growR (h : Rel n0 F w0 R m w) {w' : World} {L : Loc} {a : SA} {cs : Array Value} {t : TypeId} {fz : Nat × Nat} (hb : Go.RowKit.Below w.heap.size w w') (hL : w.heap.size ≤ L.b) (hlt : L.b < w'.heap.size) (hg : w'.heap[L.b]? = some (.cells cs t fz)) (hs : cs.size = L.n)
    (ha : a.ok R cs) : ∃ R', ExtN w w' m.next (m.next + 1) R R' ∧ R' m.next = some L ∧ Rel n0 F w0 R' (m.newR a t) w' := by
  have hx : Ext R (fun i => if i = m.next then some L else R i) := by
    intro i g e
    have := h.nx i g e
    show (if i = m.next then some L else R i) = some g
    rw [if_neg (by omega)]
    exact e
  have hcase : ∀ {i g}, (if i = m.next then some L else R i) = some g → (i = m.next ∧ g = L) ∨ (i ≠ m.next ∧ R i = some g) := by
    intro i g e
    split at e
    · cases e; rename_i hi; exact .inl ⟨hi, rfl⟩
    · rename_i hi; exact .inr ⟨hi, e⟩
  have hget : ∀ {i b}, getB (m.newR a t).bl i = some b → (i = m.next ∧ b = ⟨a, t, false⟩) ∨ (i ≠ m.next ∧ getB m.bl i = some b) := by
    intro i b e
    have e : getB (m.bl.set m.next (some ⟨a, t, false⟩)) i = some b := e
    rw [getB_set] at e
    split at e
    · rename_i hi
      cases e
      exact .inl ⟨hi, rfl⟩
    · rename_i hi
      exact .inr ⟨hi, e⟩
  refine ⟨_, ⟨hx, fun i g e => ?_, hb.size, by omega⟩, by simp, ?_⟩
  · rcases hcase e with ⟨h1, rfl⟩ | ⟨_, h2⟩
    · exact .inr ⟨hL, by omega⟩
    · exact .inl h2
  · refine ⟨?_, ?_, ?_, ?_, Nat.le_trans h.base hb.size, h.fr.trans (BelowF.of (hb.mono h.base)), ?_, ?_, h.gl⟩
    rotate_left 4
    · intro i x hx'
      obtain ⟨g, o, h1, h2, h3, h4⟩ := h.xo i x hx'
      exact ⟨g, o, hx _ _ h1, (hb.block g.b (h.lt _ _ h1)).trans h2, XO.mono hx h3, h4⟩
    · exact h.xi' hx
    · intro i j g k b c hi hj hgk hbi hcj hw
      rcases hcase hi with ⟨h1, rfl⟩ | ⟨h1, h2⟩ <;> rcases hcase hj with ⟨k1, rfl⟩ | ⟨k1, k2⟩
      · omega
      · have := h.lt _ _ k2; omega
      · have := h.lt _ _ h2; omega
      · rcases hget hbi with ⟨e1, _⟩ | ⟨_, e1⟩
        · exact (h1 e1).elim
        · rcases hget hcj with ⟨e2, _⟩ | ⟨_, e2⟩
          · exact (k1 e2).elim
          · exact h.inj i j g k b c h2 k2 hgk e1 e2 hw
    · intro i g hi
      rcases hcase hi with ⟨_, rfl⟩ | ⟨_, h2⟩
      · exact hlt
      · exact Nat.lt_of_lt_of_le (h.lt _ _ h2) hb.size
    · intro i g hi
      show i < m.next + 1
      rcases hcase hi with ⟨h1, _⟩ | ⟨_, h2⟩
      · omega
      · have := h.nx _ _ h2; omega
    · intro i b hbi
      rcases hget hbi with ⟨rfl, rfl⟩ | ⟨h1, h2⟩
      · exact ⟨L, cs, fz, by simp, hg, hs, SA.monoM hx (SA.okM_of ha), fun h => by cases h⟩
      · obtain ⟨g, c, fz, k1, k2, k3, k4, k5⟩ := h.blk i b h2
        exact ⟨g, c, fz, hx _ _ k1, (hb.block g.b (h.lt _ _ k1)).trans k2, k3, SA.monoM hx k4, k5⟩
theorem Rel.new (h : Rel n0 F w0 R m w) {a : SA} {cs : Array Value} (ha : a.ok R cs) (t : TypeId) :
    ∃ R', ExtN w (w.alloc (.cells cs t)) m.next (m.next + 1) R R' ∧ R' m.next = some ⟨w.heap.size, cs.size⟩ ∧ Rel n0 F w0 R' (m.new a t) (w.alloc (.cells cs t)) :=
  h.grow ((Go.RowKit.Below.refl _ _).alloc (Nat.le_refl _) _) (Nat.le_refl _) (by simp) (heap_alloc_new w _) rfl ha

theorem Rel.set (h : Rel n0 F w0 R m w) {id : Nat} {b : SBlk} (hb : getB m.bl id = some b) (hw : b.wr = true) :
    ∃ g cs fz, R id = some g ∧ w.heap[g.b]? = some (.cells cs b.ty fz) ∧ FzOk fz cs.size ∧ cs.size = g.n ∧ b.arr.okM R cs ∧
      ∀ r cs', SA.ok R r cs' → cs'.size = cs.size → Rel n0 F w0 R ⟨m.next, putB m.bl id r, m.xs⟩ (w.setRow g.b cs') := by
  obtain ⟨g, cs, fz, h1, h2, hs, h3, h4⟩ := h.blk id b hb
  obtain ⟨hF, hz⟩ := h4 hw
  have hget : ∀ {r i c}, getB (putB m.bl id r) i = some c → (i = id ∧ c = ⟨r, b.ty, b.wr⟩) ∨ (i ≠ id ∧ getB m.bl i = some c) := by
    intro r i c hc
    rw [getB_put] at hc
    split at hc
    · rename_i e
      subst e
      rw [hb] at hc
      simp only [Option.map_some, Option.some.injEq] at hc
      exact .inl ⟨rfl, hc.symm⟩
    · rename_i e
      exact .inr ⟨e, hc⟩
  refine ⟨g, cs, fz, h1, h2, hz, hs, h3, fun r cs' hr hsz => ⟨?_, by simpa using h.lt, h.nx, ?_, by simpa using h.base, ?_, ?_, h.xi, h.gl⟩⟩
  rotate_left 3
  · intro i x hx
    obtain ⟨g', o, k1, k2, k3, k4⟩ := h.xo i x hx
    refine ⟨g', o, k1, ?_, k3, k4⟩
    rw [setRow_other w g.b g'.b cs' (fun e => ?_)]
    · exact k2
    · rw [e, h2] at k2
      cases k2
      exact XO.not_cells k3 rfl
  · intro i j gi gj x y hi hj hg hx hy hwr
    have old : ∀ {i x}, getB (putB m.bl id r) i = some x → ∃ x', getB m.bl i = some x' ∧ x'.wr = x.wr := by
      intro i x hx
      rcases hget hx with ⟨rfl, rfl⟩ | ⟨_, h2⟩
      · exact ⟨b, hb, rfl⟩
      · exact ⟨x, h2, rfl⟩
    obtain ⟨x', k1, k2⟩ := old hx
    obtain ⟨y', k3, k4⟩ := old hy
    exact h.inj i j gi gj x' y' hi hj hg k1 k3 (by rw [k2, k4]; exact hwr)
  · intro i c hc
    rcases hget hc with ⟨rfl, rfl⟩ | ⟨hne, hc⟩
    · exact ⟨g, cs', fz, h1, setRow_heap w g.b cs cs' b.ty fz h2, by rw [hsz, hs], SA.okM_of hr, fun _ => ⟨hF, by rw [hsz]; exact hz⟩⟩
    · obtain ⟨g', c', fz', k1, k2, k3, k4, k5⟩ := h.blk i c hc
      have hg : g'.b ≠ g.b := by
        intro e
        exact hne (h.inj _ _ _ _ _ _ k1 h1 e hc hb (.inr hw))
      exact ⟨g', c', fz', k1, by rw [setRow_other w g.b g'.b cs' hg]; exact k2, k3, k4, k5⟩
  · exact h.fr.trans ⟨rfl, rfl, rfl, by simp, fun k hk hf => setRow_other w g.b k cs' (fun e => by
      subst e
      rcases hF with hF | hF
      · omega
      · exact hf hF), fun k cs2 ty2 fz2 hk hc => by
      by_cases e : k = g.b
      · subst e
        rw [h2] at hc
        cases hc
        exact ⟨cs', setRow_heap w g.b cs cs' b.ty fz h2⟩
      · exact ⟨cs2, by rw [setRow_other w g.b k cs' e]; exact hc⟩⟩
omit [Gh] in
theorem getX_put : ∀ (l : List XB) (i : Nat) (a : XO) (j : Nat), getX (putX l i a) j = if j = i then (getX l i).map fun _ => a else getX l j
  | [], i, a, j => by simp [putX, getX]
  | c :: l, i, a, j => by
    simp only [putX]
    by_cases e : Nat.beq c.id i = true
    · have e' : c.id = i := by simpa using e
      rw [if_pos e]
      simp only [getX]
      by_cases hj : j = i
      · subst hj
        rw [if_pos e, if_pos rfl, if_pos e]
        rfl
      · have : ¬ Nat.beq c.id j = true := by simp; omega
        rw [if_neg this, getX_put l i a j, if_neg hj, if_neg hj, if_neg this]
    · rw [if_neg e]
      simp only [getX]
      by_cases hj : j = i
      · subst hj
        rw [if_neg e, getX_put l j a j, if_pos rfl, if_pos rfl, if_neg e]
      · rw [getX_put l i a j, if_neg hj, if_neg hj]
omit [Gh] in
theorem getX_drop : ∀ (l : List XB) (i j : Nat), getX (dropX l i) j = if j = i then none else getX l j
  | [], i, j => by simp [dropX, getX]
  | c :: l, i, j => by
    simp only [dropX]
    by_cases e : Nat.beq c.id i = true
    · have e' : c.id = i := by simpa using e
      rw [if_pos e, getX_drop l i j]
      by_cases hj : j = i
      · rw [if_pos hj, if_pos hj]
      · have : ¬ Nat.beq c.id j = true := by simp; omega
        rw [if_neg hj, if_neg hj]
        simp only [getX]
        rw [if_neg this]
    · rw [if_neg e]
      simp only [getX]
      by_cases hj : j = i
      · subst hj
        rw [if_neg e, getX_drop l j j, if_pos rfl, if_pos rfl]
      · rw [getX_drop l i j, if_neg hj, if_neg hj]
theorem Rel.newX (h : Rel n0 F w0 R m w) {x : XO} {o : Obj} (ho : x.ok R o) :
    ∃ R', ExtN w (w.alloc o) m.next (m.next + 1) R R' ∧ R' m.next = some ⟨w.heap.size, 0⟩ ∧ Rel n0 F w0 R' (m.newX x) (w.alloc o) := by
  have hb : Go.RowKit.Below w.heap.size w (w.alloc o) := (Go.RowKit.Below.refl _ _).alloc (Nat.le_refl _) _
  have hx : Ext R (fun i => if i = m.next then some ⟨w.heap.size, 0⟩ else R i) := by
    intro i g e
    have := h.nx i g e
    show (if i = m.next then some _ else R i) = some g
    rw [if_neg (by omega)]
    exact e
  have hcase : ∀ {i g}, (if i = m.next then some (⟨w.heap.size, 0⟩ : Loc) else R i) = some g → (i = m.next ∧ g = ⟨w.heap.size, 0⟩) ∨ (i ≠ m.next ∧ R i = some g) := by
    intro i g e
    split at e
    · cases e; rename_i hi; exact .inl ⟨hi, rfl⟩
    · rename_i hi; exact .inr ⟨hi, e⟩
  have hget : ∀ {i b}, getX (m.newX x).xs i = some b → (i = m.next ∧ b = x) ∨ (i ≠ m.next ∧ getX m.xs i = some b) := by
    intro i b e
    replace e : (if Nat.beq m.next i = true then some x else getX m.xs i) = some b := e
    split at e
    · rename_i hi
      have hi' : m.next = i := by simpa using hi
      cases e
      exact .inl ⟨hi'.symm, rfl⟩
    · rename_i hi
      exact .inr ⟨fun e' => hi (by simp [e']), e⟩
  have hsz : w.heap.size < (w.alloc o).heap.size := by simp
  refine ⟨_, ⟨hx, fun i g e => ?_, hb.size, by omega⟩, by simp, ?_, ?_, ?_, ?_, Nat.le_trans h.base hb.size, h.fr.trans (BelowF.of (hb.mono h.base)), ?_, ?_, h.gl⟩
  · rcases hcase e with ⟨h1, rfl⟩ | ⟨_, h2⟩
    · exact .inr ⟨Nat.le_refl _, by omega⟩
    · exact .inl h2
  · intro i j g k b c hi hj hgk hbi hcj hw
    obtain ⟨gi, _, _, h1, _⟩ := h.blk i b hbi
    obtain ⟨gj, _, _, h2, _⟩ := h.blk j c hcj
    have e1 : some g = some gi := hi.symm.trans (hx _ _ h1)
    have e2 : some k = some gj := hj.symm.trans (hx _ _ h2)
    cases e1
    cases e2
    exact h.inj i j _ _ b c h1 h2 hgk hbi hcj hw
  · intro i g e
    rcases hcase e with ⟨_, rfl⟩ | ⟨_, h2⟩
    · exact hsz
    · exact Nat.lt_of_lt_of_le (h.lt _ _ h2) hb.size
  · intro i g e
    show i < m.next + 1
    rcases hcase e with ⟨h1, _⟩ | ⟨_, h2⟩
    · omega
    · have := h.nx _ _ h2; omega
  · intro i b hbi
    obtain ⟨g, c, fz, k1, k2, k3, k4, k5⟩ := h.blk i b hbi
    exact ⟨g, c, fz, hx _ _ k1, (hb.block g.b (h.lt _ _ k1)).trans k2, k3, SA.monoM hx k4, k5⟩
  · intro i y hy
    rcases hget hy with ⟨rfl, rfl⟩ | ⟨_, h2⟩
    · exact ⟨⟨w.heap.size, 0⟩, o, by simp, heap_alloc_new w o, XO.mono hx ho, fun _ => .inl h.base⟩
    · obtain ⟨g, o', k1, k2, k3, k4⟩ := h.xo i y h2
      exact ⟨g, o', hx _ _ k1, (hb.block g.b (h.lt _ _ k1)).trans k2, XO.mono hx k3, k4⟩
  · intro i j gi gj y z hi hj hg hy hz
    rcases hcase hi with ⟨h1, rfl⟩ | ⟨h1, h2⟩ <;> rcases hcase hj with ⟨k1, rfl⟩ | ⟨k1, k2⟩
    · omega
    · have := h.lt _ _ k2
      have hg : w.heap.size = gj.b := hg
      omega
    · have := h.lt _ _ h2
      have hg : gi.b = w.heap.size := hg
      omega
    · rcases hget hy with ⟨e1, _⟩ | ⟨_, e1⟩
      · exact (h1 e1).elim
      · rcases hget hz with ⟨e2, _⟩ | ⟨_, e2⟩
        · exact (k1 e2).elim
        · exact h.xi i j _ _ y z h2 k2 hg e1 e2
theorem Rel.setX (h : Rel n0 F w0 R m w) {id : Nat} {x : XO} (hx : getX m.xs id = some x) (hown : x.own = true) :
    ∃ g o, R id = some g ∧ w.heap[g.b]? = some o ∧ x.ok R o ∧
      (∀ y o', XO.ok R y o' → Rel n0 F w0 R ⟨m.next, m.bl, putX m.xs id y⟩ (w.putObj g.b o')) ∧ (∀ o', Rel n0 F w0 R ⟨m.next, m.bl, dropX m.xs id⟩ (w.putObj g.b o')) := by
  obtain ⟨g, o, h1, h2, h3, h4⟩ := h.xo id x hx
  have h4 := h4 hown
  have hlt := h.lt _ _ h1
  have other : ∀ o' k, k ≠ g.b → (w.putObj g.b o').heap[k]? = w.heap[k]? := fun o' k hk => World.putObj_heap_other (fun e => hk (by rw [e]))
  have hblk : ∀ o', ∀ i b, getB m.bl i = some b → ∃ g' cs fz, R i = some g' ∧ (w.putObj g.b o').heap[g'.b]? = some (.cells cs b.ty fz) ∧ cs.size = g'.n ∧ b.arr.okM R cs ∧ (b.wr = true → (n0 ≤ g'.b ∨ F g'.b) ∧ FzOk fz cs.size) := by
    intro o' i b hb
    obtain ⟨g', cs, fz, k1, k2, k3, k4, k5⟩ := h.blk i b hb
    refine ⟨g', cs, fz, k1, ?_, k3, k4, k5⟩
    rw [other o' _ (fun e => ?_)]
    · exact k2
    · rw [e, h2] at k2
      cases k2
      exact XO.not_cells h3 rfl
  have hsz : ∀ o', (w.putObj g.b o').heap.size = w.heap.size := fun o' => by simp
  have hfr : ∀ o', BelowF n0 F w0 (w.putObj g.b o') := fun o' => h.fr.trans ⟨rfl, rfl, rfl, by simp, fun k hk hf => other o' k (fun e => by
    rcases h4 with h4 | h4
    · omega
    · exact hf (e ▸ h4)), fun k cs ty fz hk hc => ⟨cs, by
    rw [other o' k (fun e => by
      rw [e, h2] at hc
      cases hc
      exact XO.not_cells h3 rfl)]
    exact hc⟩⟩
  refine ⟨g, o, h1, h2, h3, fun y o' hy => ⟨h.inj, fun i k e => by rw [hsz]; exact h.lt i k e, h.nx, hblk o', by rw [hsz]; exact h.base, hfr o', ?_, ?_, h.gl⟩,
    fun o' => ⟨h.inj, fun i k e => by rw [hsz]; exact h.lt i k e, h.nx, hblk o', by rw [hsz]; exact h.base, hfr o', ?_, ?_, h.gl⟩⟩
  · intro i z hz
    rw [getX_put] at hz
    split at hz
    · rename_i e
      subst e
      rw [hx] at hz
      cases hz
      exact ⟨g, o', h1, World.putObj_heap_same hlt, hy, fun _ => h4⟩
    · rename_i e
      obtain ⟨g', q, k1, k2, k3, k4⟩ := h.xo i z hz
      refine ⟨g', q, k1, ?_, k3, k4⟩
      rw [other o' _ (fun e' => e (h.xi i id _ _ z x k1 h1 e' hz hx))]
      exact k2
  · intro i j gi gj y' z hi hj hg hy' hz
    have old : ∀ {i z}, getX (putX m.xs id y) i = some z → ∃ z', getX m.xs i = some z' := by
      intro i z hz
      rw [getX_put] at hz
      split at hz
      · rename_i e; exact ⟨x, e ▸ hx⟩
      · exact ⟨z, hz⟩
    obtain ⟨y1, e1⟩ := old hy'
    obtain ⟨z1, e2⟩ := old hz
    exact h.xi i j _ _ y1 z1 hi hj hg e1 e2
  · intro i z hz
    rw [getX_drop] at hz
    split at hz
    · cases hz
    · rename_i e
      obtain ⟨g', q, k1, k2, k3, k4⟩ := h.xo i z hz
      refine ⟨g', q, k1, ?_, k3, k4⟩
      rw [other o' _ (fun e' => e (h.xi i id _ _ z x k1 h1 e' hz hx))]
      exact k2
  · intro i j gi gj y' z hi hj hg hy' hz
    rw [getX_drop] at hy' hz
    split at hy'
    · cases hy'
    · split at hz
      · cases hz
      · exact h.xi i j _ _ y' z hi hj hg hy' hz
theorem Rel.dropX (h : Rel n0 F w0 R m w) (id : Nat) : Rel n0 F w0 R ⟨m.next, m.bl, Go.Proofs.YtjjeahnbppmigaaDoor.dropX m.xs id⟩ w := by
  have old : ∀ {i z}, getX (Go.Proofs.YtjjeahnbppmigaaDoor.dropX m.xs id) i = some z → getX m.xs i = some z := by
    intro i z hz
    rw [getX_drop] at hz
    split at hz
    · cases hz
    · exact hz
  exact ⟨h.inj, h.lt, h.nx, h.blk, h.base, h.fr, fun i z hz => h.xo i z (old hz), fun i j gi gj y z hi hj hg hy hz => h.xi i j gi gj y z hi hj hg (old hy) (old hz), h.gl⟩
theorem Rel.drop (h : Rel n0 F w0 R m w) (id : Nat) : Rel n0 F w0 R ⟨m.next, dropB m.bl id, m.xs⟩ w := by
  have hget : ∀ {i c}, getB (dropB m.bl id) i = some c → i ≠ id ∧ getB m.bl i = some c := by
    intro i c hc
    rw [getB_drop] at hc
    split at hc
    · cases hc
    · rename_i e; exact ⟨e, hc⟩
  exact ⟨fun i j g k b c h1 h2 h3 h4 h5 => h.inj i j g k b c h1 h2 h3 (hget h4).2 (hget h5).2, h.lt, h.nx, fun i b hb => h.blk i b (hget hb).2, h.base, h.fr, h.xo, h.xi, h.gl⟩
theorem Rel.again (h : Rel n0 F w0 R m w) {id : Nat} {b : SBlk} (hb : getB m.bl id = some b) (hw : b.wr = true) :
    ∃ g cs fz, R id = some g ∧ w.heap[g.b]? = some (.cells cs b.ty fz) ∧ FzOk fz cs.size ∧ cs.size = g.n ∧ b.arr.okM R cs ∧
      ∀ r cs', SA.ok R r cs' → cs'.size = cs.size → ∃ R', Ext R R' ∧ R' m.next = some g ∧ (∀ i k, R' i = some k → R i = some k ∨ (i = m.next ∧ k = g)) ∧
        Rel n0 F w0 R' ⟨m.next + 1, (dropB m.bl id).set m.next (some ⟨r, b.ty, true⟩), m.xs⟩ (w.setRow g.b cs') := by
  obtain ⟨g, cs, fz, h1, h2, hz, hs, h3, hset⟩ := h.set hb hw
  refine ⟨g, cs, fz, h1, h2, hz, hs, h3, fun r cs' hr hsz => ?_⟩
  have H := hset r cs' hr hsz
  have hid : id < m.next := h.nx _ _ h1
  have hx : Ext R (fun i => if i = m.next then some g else R i) := by
    intro i k e
    have := h.nx i k e
    show (if i = m.next then some g else R i) = some k
    rw [if_neg (by omega)]
    exact e
  have hcase : ∀ {i k}, (if i = m.next then some g else R i) = some k → (i = m.next ∧ k = g) ∨ (i ≠ m.next ∧ R i = some k) := by
    intro i k e
    split at e
    · cases e; rename_i hi; exact .inl ⟨hi, rfl⟩
    · rename_i hi; exact .inr ⟨hi, e⟩
  have hput : getB (putB m.bl id r) id = some ⟨r, b.ty, b.wr⟩ := by rw [getB_put, if_pos rfl, hb]; rfl
  have hget : ∀ {i c}, getB ((dropB m.bl id).set m.next (some ⟨r, b.ty, true⟩)) i = some c → (i = m.next ∧ c = ⟨r, b.ty, true⟩) ∨ (i ≠ m.next ∧ i ≠ id ∧ getB (putB m.bl id r) i = some c) := by
    intro i c e
    rw [getB_set] at e
    split at e
    · rename_i hi
      cases e
      exact .inl ⟨hi, rfl⟩
    · rename_i hi
      rw [getB_drop] at e
      split at e
      · cases e
      · rename_i hne
        exact .inr ⟨hi, hne, by rw [getB_put, if_neg hne]; exact e⟩
  refine ⟨_, hx, by simp, fun i k e => (hcase e).elim .inr fun h => .inl h.2, ?_, ?_, ?_, ?_, H.base, H.fr, ?_, ?_, H.gl⟩
  rotate_left 4
  · intro i x hx'
    obtain ⟨g', o, k1, k2, k3, k4⟩ := H.xo i x hx'
    exact ⟨g', o, hx _ _ k1, k2, XO.mono hx k3, k4⟩
  · exact H.xi' hx
  · intro i j gi gj x y hi hj hg hbx hby hwr
    rcases hcase hi with ⟨e1, rfl⟩ | ⟨e1, k1⟩ <;> rcases hcase hj with ⟨e2, rfl⟩ | ⟨e2, k2⟩
    · omega
    · rcases hget hby with ⟨e3, _⟩ | ⟨_, e3, e4⟩
      · exact (e2 e3).elim
      · exact (e3 (H.inj j id _ _ _ _ k2 h1 hg.symm e4 hput (.inr hw))).elim
    · rcases hget hbx with ⟨e3, _⟩ | ⟨_, e3, e4⟩
      · exact (e1 e3).elim
      · exact (e3 (H.inj i id _ _ _ _ k1 h1 hg e4 hput (.inr hw))).elim
    · rcases hget hbx with ⟨e3, _⟩ | ⟨_, _, e4⟩
      · exact (e1 e3).elim
      · rcases hget hby with ⟨e5, _⟩ | ⟨_, _, e6⟩
        · exact (e2 e5).elim
        · exact H.inj i j _ _ _ _ k1 k2 hg e4 e6 hwr
  · intro i k hi
    rcases hcase hi with ⟨_, rfl⟩ | ⟨_, k1⟩
    · exact H.lt _ _ h1
    · exact H.lt _ _ k1
  · intro i k hi
    show i < m.next + 1
    rcases hcase hi with ⟨e, _⟩ | ⟨_, k1⟩
    · omega
    · have := h.nx _ _ k1; omega
  · intro i c hc
    rcases hget hc with ⟨rfl, rfl⟩ | ⟨_, _, e4⟩
    · obtain ⟨g', c', fz, k1, k2, k3, k4, k5⟩ := H.blk id _ hput
      rw [h1] at k1
      cases k1
      exact ⟨g, c', fz, by simp, k2, k3, SA.monoM hx k4, fun _ => k5 hw⟩
    · obtain ⟨g', c', fz, k1, k2, k3, k4, k5⟩ := H.blk i c e4
      exact ⟨g', c', fz, hx _ _ k1, k2, k3, SA.monoM hx k4, k5⟩
end

omit [Gh] in
def Ends (P : Program) (a : Act) (o : Oper) (w w' : World) (v : Value) : Prop :=
  (execOp a.eval o).run P w = .ok (.value v) w' ∨ ((execOp a.eval o).run P w = .ok .skip w' ∧ v = undef)
end Go.Proofs.YtjjeahnbppmigaaDoor
