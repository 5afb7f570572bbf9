/- Of the symbolic memory: what is new, what is written. No condition. -/
import Derived.Test.YtldoopjnjlpbpaaGreatDoorK4
import Derived.RangeFuncRecord
set_option linter.unusedVariables false
set_option linter.unusedSimpArgs false
namespace Go.Proofs.YtldoopjnjlpbpaaGreatDoor
theorem IN (l : Tr bN) (i : Nat) (a : SA) (j : Nat) : aH (sM l i a) j = if j = i then (aH l i).map fun b => ⟨a, b.ty, b.wr⟩ else aH l j := by
  unfold sM aH
  cases h : l.get i with
  | none =>
    dsimp only
    by_cases e : j = i
    · subst e; rw [if_pos rfl, h]; rfl
    · rw [if_neg e]
  | some b =>
    dsimp only
    rw [Tr.lS]
    rfl
theorem jv (l : Tr bN) (i : Nat) (x : Option bN) (j : Nat) : aH (l.set i x) j = if j = i then x else aH l j := Tr.lS l i x j
theorem O1 (l : Tr bN) (i j : Nat) : aH (xQ l i) j = if j = i then none else aH l j := Tr.lS l i none j
theorem b_.refl (w : World) (n : Nat) (R : aX) : b_ w w n n R R := ⟨Ext.refl R, fun _ _ h => .inl h, Nat.le_refl _, Nat.le_refl _⟩
theorem b_.same {w w' : World} (n : Nat) (R : aX) (h : w.heap.size ≤ w'.heap.size) : b_ w w' n n R R := ⟨Ext.refl R, fun _ _ h => .inl h, h, Nat.le_refl _⟩
theorem b_.trans {w w1 w2 : World} {n n1 n2 : Nat} {R R' Vo : aX} (h : b_ w w1 n n1 R R') (k : b_ w1 w2 n1 n2 R' Vo) : b_ w w2 n n2 R Vo :=
  ⟨h.1.trans k.1, fun i g e => (k.2.1 i g e).elim (fun e => h.2.1 i g e) fun e => .inr ⟨Nat.le_trans h.2.2.1 e.1, Nat.le_trans h.2.2.2 e.2⟩, Nat.le_trans h.2.2.1 k.2.2.1, Nat.le_trans h.2.2.2 k.2.2.2⟩
section
variable {n0 : Nat} {F : Nat → Prop} {w0 w w' : World} {R : aX} {m : aj}
theorem iz.refl (n0 : Nat) (F : Nat → Prop) (w : World) : iz n0 F w w := ⟨rfl, rfl, rfl, Nat.le_refl _, fun _ _ _ => rfl, fun _ cs _ _ _ h => ⟨cs, h⟩⟩
theorem iz.trans {a b c : World} (h : iz n0 F a b) (k : iz n0 F b c) : iz n0 F a c :=
  ⟨k.os.trans h.os, k.tape.trans h.tape, k.output.trans h.output, Nat.le_trans h.size k.size, fun i hi hf => (k.block i hi hf).trans (h.block i hi hf), fun i cs ty fz hi hc => by
    obtain ⟨cs1, h1⟩ := h.sN i cs ty fz hi hc
    exact k.sN i cs1 ty fz hi h1⟩
theorem iz.of (h : Go.RowKit.Below n0 w w') : iz n0 F w w' := ⟨h.os, h.tape, h.output, h.size, fun k hk _ => h.block k hk, fun k cs ty fz hk hc => ⟨cs, (h.block k hk).trans hc⟩⟩
theorem iz.to (h : iz n0 (fun _ => False) w w') : Go.RowKit.Below n0 w w' := ⟨h.os, h.tape, h.output, h.size, fun k hk => h.block k hk id⟩
theorem Rel.Nv (h : Rel n0 F w0 R m w) {R' : aX} (hx : Ext R R') : ∀ i j g k x y, R' i = some g → R' j = some k → g.b = k.b → bR m.xs i = some x → bR m.xs j = some y → i = j := by
  intro i j gi gj x y hi hj hg hx' hy'
  obtain ⟨gi', _, h1, _⟩ := h.xo i x hx'
  obtain ⟨gj', _, h2, _⟩ := h.xo j y hy'
  have e1 : some gi = some gi' := hi.symm.trans (hx _ _ h1)
  have e2 : some gj = some gj' := hj.symm.trans (hx _ _ h2)
  cases e1
  cases e2
  exact h.xi i j _ _ x y h1 h2 hg hx' hy'
theorem Rel.Ny (h : Rel n0 F w0 R m w) (hF : ∀ k, F k → ∃ cs ty fz, w0.heap[k]? = some (.cells cs ty fz)) : ∀ i x, bR m.xs i = some x → ∃ g o, R i = some g ∧ w.heap[g.b]? = some o ∧ x.ok R o ∧ (x.own = true → n0 ≤ g.b) := by
  intro i x hx
  obtain ⟨g, o, h1, h2, h3, h4⟩ := h.xo i x hx
  refine ⟨g, o, h1, h2, h3, fun e => ?_⟩
  rcases h4 e with h5 | h5
  · exact h5
  · rcases Nat.lt_or_ge g.b n0 with c | c
    · obtain ⟨cs, ty, fz, k1⟩ := hF _ h5
      obtain ⟨cs', k2⟩ := h.fr.sN g.b cs ty fz c k1
      rw [h2] at k2
      cases k2
      exact (XO.zm h3 rfl).elim
    · exact c
theorem Rel.step (h : Rel n0 F w0 R m w) (hb : Go.RowKit.Below w.heap.size w w') : Rel n0 F w0 R m w' :=
  { inj := h.inj
    lt := fun i g e => Nat.lt_of_lt_of_le (h.lt i g e) hb.size
    nx := h.nx
    dS := fun i b hm => by
      obtain ⟨g, cs, fz, h1, h2, hs, h3, h4⟩ := h.dS i b hm
      exact ⟨g, cs, fz, h1, (hb.block g.b (h.lt _ _ h1)).trans h2, hs, h3, h4⟩
    base := Nat.le_trans h.base hb.size
    fr := h.fr.trans (iz.of (hb.mono h.base))
    xo := fun i x hx => by
      obtain ⟨g, o, h1, h2, h3, h4⟩ := h.xo i x hx
      exact ⟨g, o, h1, (hb.block g.b (h.lt _ _ h1)).trans h2, h3, h4⟩
    xi := h.xi
    gl := h.gl }
theorem Rel.grow (h : Rel n0 F w0 R m w) {w' : World} {L : Loc} {a : SA} {cs : Array Value} {t : TypeId} (hb : Go.RowKit.Below w.heap.size w w') (hL : w.heap.size ≤ L.b) (hlt : L.b < w'.heap.size) {fz : Nat × Nat} (hg : w'.heap[L.b]? = some (.cells cs t fz)) (hs : cs.size = L.n)
    (ha : a.ok R cs) (hz : mQ fz cs.size := by exact .inl rfl) : ∃ R', b_ w w' m.next (m.next + 1) R R' ∧ R' m.next = some L ∧ Rel n0 F w0 R' (m.new a t) w' := by
  have hx : Ext R (fun i => if i = m.next then some L else R i) := by
    intro i g e
    have := h.nx i g e
    show (if i = m.next then some L else R i) = some g
    rw [if_neg (by omega)]
    exact e
  have gJ : ∀ {i g}, (if i = m.next then some L else R i) = some g → (i = m.next ∧ g = L) ∨ (i ≠ m.next ∧ R i = some g) := by
    intro i g e
    split at e
    · cases e; rename_i hi; exact .inl ⟨hi, rfl⟩
    · rename_i hi; exact .inr ⟨hi, e⟩
  have iE : ∀ {i b}, aH (m.new a t).bl i = some b → (i = m.next ∧ b = ⟨a, t, true⟩) ∨ (i ≠ m.next ∧ aH m.bl i = some b) := by
    intro i b e
    have e : aH (m.bl.set m.next (some ⟨a, t, true⟩)) i = some b := e
    rw [jv] at e
    split at e
    · rename_i hi
      cases e
      exact .inl ⟨hi, rfl⟩
    · rename_i hi
      exact .inr ⟨hi, e⟩
  refine ⟨_, ⟨hx, fun i g e => ?_, hb.size, by omega⟩, by simp, ?_⟩
  · rcases gJ e with ⟨h1, rfl⟩ | ⟨_, h2⟩
    · exact .inr ⟨hL, by omega⟩
    · exact .inl h2
  · refine ⟨?_, ?_, ?_, ?_, Nat.le_trans h.base hb.size, h.fr.trans (iz.of (hb.mono h.base)), ?_, ?_, h.gl⟩
    rotate_left 4
    · intro i x hx'
      obtain ⟨g, o, h1, h2, h3, h4⟩ := h.xo i x hx'
      exact ⟨g, o, hx _ _ h1, (hb.block g.b (h.lt _ _ h1)).trans h2, XO.mono hx h3, h4⟩
    · exact h.Nv hx
    · intro i j g k b c hi hj ru pS yX hw
      rcases gJ hi with ⟨h1, rfl⟩ | ⟨h1, h2⟩ <;> rcases gJ hj with ⟨k1, rfl⟩ | ⟨k1, k2⟩
      · omega
      · have := h.lt _ _ k2; omega
      · have := h.lt _ _ h2; omega
      · rcases iE pS with ⟨e1, _⟩ | ⟨_, e1⟩
        · exact (h1 e1).elim
        · rcases iE yX with ⟨e2, _⟩ | ⟨_, e2⟩
          · exact (k1 e2).elim
          · exact h.inj i j g k b c h2 k2 ru e1 e2 hw
    · intro i g hi
      rcases gJ hi with ⟨_, rfl⟩ | ⟨_, h2⟩
      · exact hlt
      · exact Nat.lt_of_lt_of_le (h.lt _ _ h2) hb.size
    · intro i g hi
      show i < m.next + 1
      rcases gJ hi with ⟨h1, _⟩ | ⟨_, h2⟩
      · omega
      · have := h.nx _ _ h2; omega
    · intro i b pS
      rcases iE pS with ⟨rfl, rfl⟩ | ⟨h1, h2⟩
      · exact ⟨L, cs, fz, by simp, hg, hs, SA.qG hx (SA.oU ha), fun _ => ⟨.inl (Nat.le_trans h.base hL), hz⟩⟩
      · obtain ⟨g, c, fz, k1, k2, k3, k4, k5⟩ := h.dS i b h2
        exact ⟨g, c, fz, hx _ _ k1, (hb.block g.b (h.lt _ _ k1)).trans k2, k3, SA.qG hx k4, k5⟩
theorem Rel.new (h : Rel n0 F w0 R m w) {a : SA} {cs : Array Value} (ha : a.ok R cs) (t : TypeId) :
    ∃ R', b_ w (w.alloc (.cells cs t)) m.next (m.next + 1) R R' ∧ R' m.next = some ⟨w.heap.size, cs.size⟩ ∧ Rel n0 F w0 R' (m.new a t) (w.alloc (.cells cs t)) :=
  h.grow ((Go.RowKit.Below.refl _ _).alloc (Nat.le_refl _) _) (Nat.le_refl _) (by simp) (heap_alloc_new w _) rfl ha
theorem Rel.set (h : Rel n0 F w0 R m w) {id : Nat} {b : bN} (hb : aH m.bl id = some b) (hw : b.wr = true) :
    ∃ g cs fz, R id = some g ∧ w.heap[g.b]? = some (.cells cs b.ty fz) ∧ mQ fz cs.size ∧ cs.size = g.n ∧ b.arr.cH R cs ∧
      ∀ r cs', SA.ok R r cs' → cs'.size = cs.size → Rel n0 F w0 R ⟨m.next, sM m.bl id r, m.xs⟩ (w.setRow g.b cs') := by
  obtain ⟨g, cs, fz, h1, h2, hs, h3, h4⟩ := h.dS id b hb
  obtain ⟨hF, hz⟩ := h4 hw
  have iE : ∀ {r i c}, aH (sM m.bl id r) i = some c → (i = id ∧ c = ⟨r, b.ty, b.wr⟩) ∨ (i ≠ id ∧ aH m.bl i = some c) := by
    intro r i c hc
    rw [IN] at hc
    split at hc
    · rename_i e
      subst e
      rw [hb] at hc
      simp only [Option.map_some, Option.some.injEq] at hc
      exact .inl ⟨rfl, hc.symm⟩
    · rename_i e
      exact .inr ⟨e, hc⟩
  refine ⟨g, cs, fz, h1, h2, hz, hs, h3, fun r cs' hr hsz => ⟨?_, by simpa using h.lt, h.nx, ?_, by simpa using h.base, ?_, ?_, h.xi, h.gl⟩⟩
  rotate_left 3
  · intro i x hx
    obtain ⟨g', o, k1, k2, k3, k4⟩ := h.xo i x hx
    refine ⟨g', o, k1, ?_, k3, k4⟩
    rw [setRow_other w g.b g'.b cs' (fun e => ?_)]
    · exact k2
    · rw [e, h2] at k2
      cases k2
      exact XO.zm k3 rfl
  · intro i j gi gj x y hi hj hg hx hy rA
    have old : ∀ {i x}, aH (sM m.bl id r) i = some x → ∃ x', aH m.bl i = some x' ∧ x'.wr = x.wr := by
      intro i x hx
      rcases iE hx with ⟨rfl, rfl⟩ | ⟨_, h2⟩
      · exact ⟨b, hb, rfl⟩
      · exact ⟨x, h2, rfl⟩
    obtain ⟨x', k1, k2⟩ := old hx
    obtain ⟨y', k3, k4⟩ := old hy
    exact h.inj i j gi gj x' y' hi hj hg k1 k3 (by rw [k2, k4]; exact rA)
  · intro i c hc
    rcases iE hc with ⟨rfl, rfl⟩ | ⟨hne, hc⟩
    · exact ⟨g, cs', fz, h1, setRow_heap w g.b cs cs' b.ty fz h2, by rw [hsz, hs], SA.oU hr, fun _ => ⟨hF, by rw [hsz]; exact hz⟩⟩
    · obtain ⟨g', c', vV, k1, k2, k3, k4, k5⟩ := h.dS i c hc
      have hg : g'.b ≠ g.b := by
        intro e
        exact hne (h.inj _ _ _ _ _ _ k1 h1 e hc hb (.inr hw))
      exact ⟨g', c', vV, k1, by rw [setRow_other w g.b g'.b cs' hg]; exact k2, k3, k4, k5⟩
  · exact h.fr.trans ⟨rfl, rfl, rfl, by simp, fun k hk hf => setRow_other w g.b k cs' (fun e => by
      subst e
      rcases hF with hF | hF
      · omega
      · exact hf hF), fun k cs2 ty2 fz2 hk hc => by
      by_cases e : k = g.b
      · subst e
        rw [h2] at hc
        cases hc
        exact ⟨cs', setRow_heap w g.b cs cs' b.ty fz h2⟩
      · exact ⟨cs2, by rw [setRow_other w g.b k cs' e]; exact hc⟩⟩
theorem zJ : ∀ (l : List XB) (i : Nat) (a : XO) (j : Nat), bR (qT l i a) j = if j = i then (bR l i).map fun _ => a else bR l j
  | [], i, a, j => by simp [qT, bR]
  | c :: l, i, a, j => by
    simp only [qT]
    by_cases e : Nat.beq c.id i = true
    · have e' : c.id = i := by simpa using e
      rw [if_pos e]
      simp only [bR]
      by_cases hj : j = i
      · subst hj
        rw [if_pos e, if_pos rfl, if_pos e]
        rfl
      · have : ¬ Nat.beq c.id j = true := by simp; omega
        rw [if_neg this, zJ l i a j, if_neg hj, if_neg hj, if_neg this]
    · rw [if_neg e]
      simp only [bR]
      by_cases hj : j = i
      · subst hj
        rw [if_neg e, zJ l j a j, if_pos rfl, if_pos rfl, if_neg e]
      · rw [zJ l i a j, if_neg hj, if_neg hj]
theorem zu : ∀ (l : List XB) (i j : Nat), bR (qH l i) j = if j = i then none else bR l j
  | [], i, j => by simp [qH, bR]
  | c :: l, i, j => by
    simp only [qH]
    by_cases e : Nat.beq c.id i = true
    · have e' : c.id = i := by simpa using e
      rw [if_pos e, zu l i j]
      by_cases hj : j = i
      · rw [if_pos hj, if_pos hj]
      · have : ¬ Nat.beq c.id j = true := by simp; omega
        rw [if_neg hj, if_neg hj]
        simp only [bR]
        rw [if_neg this]
    · rw [if_neg e]
      simp only [bR]
      by_cases hj : j = i
      · subst hj
        rw [if_neg e, zu l j j, if_pos rfl, if_pos rfl]
      · rw [zu l i j, if_neg hj, if_neg hj]
theorem Rel.newX (h : Rel n0 F w0 R m w) {x : XO} {o : Obj} (ho : x.ok R o) :
    ∃ R', b_ w (w.alloc o) m.next (m.next + 1) R R' ∧ R' m.next = some ⟨w.heap.size, 0⟩ ∧ Rel n0 F w0 R' (m.newX x) (w.alloc o) := by
  have hb : Go.RowKit.Below w.heap.size w (w.alloc o) := (Go.RowKit.Below.refl _ _).alloc (Nat.le_refl _) _
  have hx : Ext R (fun i => if i = m.next then some ⟨w.heap.size, 0⟩ else R i) := by
    intro i g e
    have := h.nx i g e
    show (if i = m.next then some _ else R i) = some g
    rw [if_neg (by omega)]
    exact e
  have gJ : ∀ {i g}, (if i = m.next then some (⟨w.heap.size, 0⟩ : Loc) else R i) = some g → (i = m.next ∧ g = ⟨w.heap.size, 0⟩) ∨ (i ≠ m.next ∧ R i = some g) := by
    intro i g e
    split at e
    · cases e; rename_i hi; exact .inl ⟨hi, rfl⟩
    · rename_i hi; exact .inr ⟨hi, e⟩
  have iE : ∀ {i b}, bR (m.newX x).xs i = some b → (i = m.next ∧ b = x) ∨ (i ≠ m.next ∧ bR m.xs i = some b) := by
    intro i b e
    replace e : (if Nat.beq m.next i = true then some x else bR m.xs i) = some b := e
    split at e
    · rename_i hi
      have hi' : m.next = i := by simpa using hi
      cases e
      exact .inl ⟨hi'.symm, rfl⟩
    · rename_i hi
      exact .inr ⟨fun e' => hi (by simp [e']), e⟩
  have hsz : w.heap.size < (w.alloc o).heap.size := by simp
  refine ⟨_, ⟨hx, fun i g e => ?_, hb.size, by omega⟩, by simp, ?_, ?_, ?_, ?_, Nat.le_trans h.base hb.size, h.fr.trans (iz.of (hb.mono h.base)), ?_, ?_, h.gl⟩
  · rcases gJ e with ⟨h1, rfl⟩ | ⟨_, h2⟩
    · exact .inr ⟨Nat.le_refl _, by omega⟩
    · exact .inl h2
  · intro i j g k b c hi hj ru pS yX hw
    obtain ⟨gi, _, _, h1, _⟩ := h.dS i b pS
    obtain ⟨gj, _, _, h2, _⟩ := h.dS j c yX
    have e1 : some g = some gi := hi.symm.trans (hx _ _ h1)
    have e2 : some k = some gj := hj.symm.trans (hx _ _ h2)
    cases e1
    cases e2
    exact h.inj i j _ _ b c h1 h2 ru pS yX hw
  · intro i g e
    rcases gJ e with ⟨_, rfl⟩ | ⟨_, h2⟩
    · exact hsz
    · exact Nat.lt_of_lt_of_le (h.lt _ _ h2) hb.size
  · intro i g e
    show i < m.next + 1
    rcases gJ e with ⟨h1, _⟩ | ⟨_, h2⟩
    · omega
    · have := h.nx _ _ h2; omega
  · intro i b pS
    obtain ⟨g, c, fz, k1, k2, k3, k4, k5⟩ := h.dS i b pS
    exact ⟨g, c, fz, hx _ _ k1, (hb.block g.b (h.lt _ _ k1)).trans k2, k3, SA.qG hx k4, k5⟩
  · intro i y hy
    rcases iE hy with ⟨rfl, rfl⟩ | ⟨_, h2⟩
    · exact ⟨⟨w.heap.size, 0⟩, o, by simp, heap_alloc_new w o, XO.mono hx ho, fun _ => .inl h.base⟩
    · obtain ⟨g, o', k1, k2, k3, k4⟩ := h.xo i y h2
      exact ⟨g, o', hx _ _ k1, (hb.block g.b (h.lt _ _ k1)).trans k2, XO.mono hx k3, k4⟩
  · intro i j gi gj y z hi hj hg hy hz
    rcases gJ hi with ⟨h1, rfl⟩ | ⟨h1, h2⟩ <;> rcases gJ hj with ⟨k1, rfl⟩ | ⟨k1, k2⟩
    · omega
    · have := h.lt _ _ k2
      have hg : w.heap.size = gj.b := hg
      omega
    · have := h.lt _ _ h2
      have hg : gi.b = w.heap.size := hg
      omega
    · rcases iE hy with ⟨e1, _⟩ | ⟨_, e1⟩
      · exact (h1 e1).elim
      · rcases iE hz with ⟨e2, _⟩ | ⟨_, e2⟩
        · exact (k1 e2).elim
        · exact h.xi i j _ _ y z h2 k2 hg e1 e2
theorem Rel.Ge (h : Rel n0 F w0 R m w) {id : Nat} {x : XO} (hx : bR m.xs id = some x) (hown : x.own = true) :
    ∃ g o, R id = some g ∧ w.heap[g.b]? = some o ∧ x.ok R o ∧
      (∀ y o', XO.ok R y o' → Rel n0 F w0 R ⟨m.next, m.bl, qT m.xs id y⟩ (w.putObj g.b o')) ∧ (∀ o', Rel n0 F w0 R ⟨m.next, m.bl, qH m.xs id⟩ (w.putObj g.b o')) := by
  obtain ⟨g, o, h1, h2, h3, h4⟩ := h.xo id x hx
  have h4 := h4 hown
  have hlt := h.lt _ _ h1
  have other : ∀ o' k, k ≠ g.b → (w.putObj g.b o').heap[k]? = w.heap[k]? := fun o' k hk => World.putObj_heap_other (fun e => hk (by rw [e]))
  have Ub : ∀ o', ∀ i b, aH m.bl i = some b → ∃ g' cs fz, R i = some g' ∧ (w.putObj g.b o').heap[g'.b]? = some (.cells cs b.ty fz) ∧ cs.size = g'.n ∧ b.arr.cH R cs ∧ (b.wr = true → (n0 ≤ g'.b ∨ F g'.b) ∧ mQ fz cs.size) := by
    intro o' i b hb
    obtain ⟨g', cs, fz, k1, k2, k3, k4, k5⟩ := h.dS i b hb
    refine ⟨g', cs, fz, k1, ?_, k3, k4, k5⟩
    rw [other o' _ (fun e => ?_)]
    · exact k2
    · rw [e, h2] at k2
      cases k2
      exact XO.zm h3 rfl
  have hsz : ∀ o', (w.putObj g.b o').heap.size = w.heap.size := fun o' => by simp
  have hfr : ∀ o', iz n0 F w0 (w.putObj g.b o') := fun o' => h.fr.trans ⟨rfl, rfl, rfl, by simp, fun k hk hf => other o' k (fun e => by
    rcases h4 with h4 | h4
    · omega
    · exact hf (e ▸ h4)), fun k cs ty fz hk hc => ⟨cs, by
    rw [other o' k (fun e => by
      rw [e, h2] at hc
      cases hc
      exact XO.zm h3 rfl)]
    exact hc⟩⟩
  refine ⟨g, o, h1, h2, h3, fun y o' hy => ⟨h.inj, fun i k e => by rw [hsz]; exact h.lt i k e, h.nx, Ub o', by rw [hsz]; exact h.base, hfr o', ?_, ?_, h.gl⟩,
    fun o' => ⟨h.inj, fun i k e => by rw [hsz]; exact h.lt i k e, h.nx, Ub o', by rw [hsz]; exact h.base, hfr o', ?_, ?_, h.gl⟩⟩
  · intro i z hz
    rw [zJ] at hz
    split at hz
    · rename_i e
      subst e
      rw [hx] at hz
      cases hz
      exact ⟨g, o', h1, World.putObj_heap_same hlt, hy, fun _ => h4⟩
    · rename_i e
      obtain ⟨g', q, k1, k2, k3, k4⟩ := h.xo i z hz
      refine ⟨g', q, k1, ?_, k3, k4⟩
      rw [other o' _ (fun e' => e (h.xi i id _ _ z x k1 h1 e' hz hx))]
      exact k2
  · intro i j gi gj y' z hi hj hg hy' hz
    have old : ∀ {i z}, bR (qT m.xs id y) i = some z → ∃ z', bR m.xs i = some z' := by
      intro i z hz
      rw [zJ] at hz
      split at hz
      · rename_i e; exact ⟨x, e ▸ hx⟩
      · exact ⟨z, hz⟩
    obtain ⟨y1, e1⟩ := old hy'
    obtain ⟨z1, e2⟩ := old hz
    exact h.xi i j _ _ y1 z1 hi hj hg e1 e2
  · intro i z hz
    rw [zu] at hz
    split at hz
    · cases hz
    · rename_i e
      obtain ⟨g', q, k1, k2, k3, k4⟩ := h.xo i z hz
      refine ⟨g', q, k1, ?_, k3, k4⟩
      rw [other o' _ (fun e' => e (h.xi i id _ _ z x k1 h1 e' hz hx))]
      exact k2
  · intro i j gi gj y' z hi hj hg hy' hz
    rw [zu] at hy' hz
    split at hy'
    · cases hy'
    · split at hz
      · cases hz
      · exact h.xi i j _ _ y' z hi hj hg hy' hz
theorem Rel.drop (h : Rel n0 F w0 R m w) (id : Nat) : Rel n0 F w0 R ⟨m.next, xQ m.bl id, m.xs⟩ w := by
  have iE : ∀ {i c}, aH (xQ m.bl id) i = some c → i ≠ id ∧ aH m.bl i = some c := by
    intro i c hc
    rw [O1] at hc
    split at hc
    · cases hc
    · rename_i e; exact ⟨e, hc⟩
  exact ⟨fun i j g k b c h1 h2 h3 h4 h5 => h.inj i j g k b c h1 h2 h3 (iE h4).2 (iE h5).2, h.lt, h.nx, fun i b hb => h.dS i b (iE hb).2, h.base, h.fr, h.xo, h.xi, h.gl⟩
theorem Rel.again (h : Rel n0 F w0 R m w) {id : Nat} {b : bN} (hb : aH m.bl id = some b) (hw : b.wr = true) :
    ∃ g cs fz, R id = some g ∧ w.heap[g.b]? = some (.cells cs b.ty fz) ∧ mQ fz cs.size ∧ cs.size = g.n ∧ b.arr.cH R cs ∧
      ∀ r cs', SA.ok R r cs' → cs'.size = cs.size → ∃ R', Ext R R' ∧ R' m.next = some g ∧ (∀ i k, R' i = some k → R i = some k ∨ (i = m.next ∧ k = g)) ∧
        Rel n0 F w0 R' ⟨m.next + 1, (xQ m.bl id).set m.next (some ⟨r, b.ty, true⟩), m.xs⟩ (w.setRow g.b cs') := by
  obtain ⟨g, cs, fz, h1, h2, hz, hs, h3, aeo⟩ := h.set hb hw
  refine ⟨g, cs, fz, h1, h2, hz, hs, h3, fun r cs' hr hsz => ?_⟩
  have H := aeo r cs' hr hsz
  have hid : id < m.next := h.nx _ _ h1
  have hx : Ext R (fun i => if i = m.next then some g else R i) := by
    intro i k e
    have := h.nx i k e
    show (if i = m.next then some g else R i) = some k
    rw [if_neg (by omega)]
    exact e
  have gJ : ∀ {i k}, (if i = m.next then some g else R i) = some k → (i = m.next ∧ k = g) ∨ (i ≠ m.next ∧ R i = some k) := by
    intro i k e
    split at e
    · cases e; rename_i hi; exact .inl ⟨hi, rfl⟩
    · rename_i hi; exact .inr ⟨hi, e⟩
  have hput : aH (sM m.bl id r) id = some ⟨r, b.ty, b.wr⟩ := by rw [IN, if_pos rfl, hb]; rfl
  have iE : ∀ {i c}, aH ((xQ m.bl id).set m.next (some ⟨r, b.ty, true⟩)) i = some c → (i = m.next ∧ c = ⟨r, b.ty, true⟩) ∨ (i ≠ m.next ∧ i ≠ id ∧ aH (sM m.bl id r) i = some c) := by
    intro i c e
    rw [jv] at e
    split at e
    · rename_i hi
      cases e
      exact .inl ⟨hi, rfl⟩
    · rename_i hi
      rw [O1] at e
      split at e
      · cases e
      · rename_i hne
        exact .inr ⟨hi, hne, by rw [IN, if_neg hne]; exact e⟩
  refine ⟨_, hx, by simp, fun i k e => (gJ e).elim .inr fun h => .inl h.2, ?_, ?_, ?_, ?_, H.base, H.fr, ?_, ?_, H.gl⟩
  rotate_left 4
  · intro i x hx'
    obtain ⟨g', o, k1, k2, k3, k4⟩ := H.xo i x hx'
    exact ⟨g', o, hx _ _ k1, k2, XO.mono hx k3, k4⟩
  · exact H.Nv hx
  · intro i j gi gj x y hi hj hg Vp hby rA
    rcases gJ hi with ⟨e1, rfl⟩ | ⟨e1, k1⟩ <;> rcases gJ hj with ⟨e2, rfl⟩ | ⟨e2, k2⟩
    · omega
    · rcases iE hby with ⟨e3, _⟩ | ⟨_, e3, e4⟩
      · exact (e2 e3).elim
      · exact (e3 (H.inj j id _ _ _ _ k2 h1 hg.symm e4 hput (.inr hw))).elim
    · rcases iE Vp with ⟨e3, _⟩ | ⟨_, e3, e4⟩
      · exact (e1 e3).elim
      · exact (e3 (H.inj i id _ _ _ _ k1 h1 hg e4 hput (.inr hw))).elim
    · rcases iE Vp with ⟨e3, _⟩ | ⟨_, _, e4⟩
      · exact (e1 e3).elim
      · rcases iE hby with ⟨e5, _⟩ | ⟨_, _, e6⟩
        · exact (e2 e5).elim
        · exact H.inj i j _ _ _ _ k1 k2 hg e4 e6 rA
  · intro i k hi
    rcases gJ hi with ⟨_, rfl⟩ | ⟨_, k1⟩
    · exact H.lt _ _ h1
    · exact H.lt _ _ k1
  · intro i k hi
    show i < m.next + 1
    rcases gJ hi with ⟨e, _⟩ | ⟨_, k1⟩
    · omega
    · have := h.nx _ _ k1; omega
  · intro i c hc
    rcases iE hc with ⟨rfl, rfl⟩ | ⟨_, _, e4⟩
    · obtain ⟨g', c', fz, k1, k2, k3, k4, k5⟩ := H.dS id _ hput
      rw [h1] at k1
      cases k1
      exact ⟨g, c', fz, by simp, k2, k3, SA.qG hx k4, fun _ => k5 hw⟩
    · obtain ⟨g', c', fz, k1, k2, k3, k4, k5⟩ := H.dS i c e4
      exact ⟨g', c', fz, hx _ _ k1, k2, k3, SA.qG hx k4, k5⟩
end
def Ends (P : Program) (a : Act) (o : Oper) (w w' : World) (v : Value) : Prop :=
  (execOp a.eval o).run P w = .ok (.value v) w' ∨ ((execOp a.eval o).run P w = .ok .skip w' ∧ v = undef)
end Go.Proofs.YtldoopjnjlpbpaaGreatDoor
