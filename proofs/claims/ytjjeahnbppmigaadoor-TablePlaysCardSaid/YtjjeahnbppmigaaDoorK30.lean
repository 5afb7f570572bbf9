/- What is known of blocks that are never written again may grow where a run goes on. No condition. -/
import Derived.Test.YtjjeahnbppmigaaDoorK15
set_option linter.unusedVariables false
set_option linter.unusedSimpArgs false
namespace Go.Proofs.YtjjeahnbppmigaaDoor
set_option linter.unusedSectionVars false
/-- The blocks that are written, by their places. -/
def wrF (R : Ren) (m : SMem) (k : Nat) : Prop :=
  (∃ i b g, getB m.bl i = some b ∧ b.wr = true ∧ R i = some g ∧ g.b = k) ∨ (∃ i x g, getX m.xs i = some x ∧ x.own = true ∧ R i = some g ∧ g.b = k)
/-- A block is told otherwise, or told no more. -/
def Tells (R : Ren) (w : World) (m m' : SMem) : Prop :=
  m'.next = m.next ∧ m'.xs = m.xs ∧ ∀ i b', getB m'.bl i = some b' → ∃ b, getB m.bl i = some b ∧ b'.ty = b.ty ∧ (b'.wr = true → b.wr = true) ∧ ∀ g cs ty fz, R i = some g → w.heap[g.b]? = some (.cells cs ty fz) → b.arr.okM R cs → b'.arr.okM R cs
theorem wrF_in {Γ : Gh} {n0 : Nat} {F : Nat → Prop} {w0 w : World} {R : Ren} {m m' : SMem} (hR : @Rel Γ n0 F w0 R m w) (hm : Tells R w m m') {k : Nat} (h : wrF R m' k) : n0 ≤ k ∨ F k := by
  rcases h with ⟨i, b, g, h1, h2, h3, rfl⟩ | ⟨i, x, g, h1, h2, h3, rfl⟩
  · obtain ⟨b0, e1, _, e3, _⟩ := hm.2.2 i b h1
    obtain ⟨g', cs, fz, k1, _, _, _, k2⟩ := hR.blk i b0 e1
    cases h3.symm.trans k1
    exact (k2 (e3 h2)).1
  · rw [hm.2.1] at h1
    obtain ⟨g', o, k1, _, _, k2⟩ := hR.xo i x h1
    cases h3.symm.trans k1
    exact k2 h2
/-- The same state, by what is known from here on. -/
theorem Rel.base' {Γ Γ' : Gh} {n0 : Nat} {F : Nat → Prop} {w0 w : World} {R : Ren} {m m' : SMem} (hR : @Rel Γ n0 F w0 R m w) (hm : Tells R w m m')
    (hΓ : ∀ g cs, @GlP Γ' g cs → g < w.heap.size ∧ ¬ wrF R m' g ∧ ∃ cs' ty fz, w.heap[g]? = some (.cells cs' ty fz) ∧ cs'.size = cs.length ∧ ∀ i : Nat, i < cs.length → cs'[i]? = cs[i]?) :
    @Rel Γ' w.heap.size (wrF R m') w R m' w := by
  rcases hR with ⟨inj, lt, nx, blk, base, fr, xo, xi, gl⟩
  refine @Rel.mk Γ' _ _ _ _ _ _ (fun i j g h b c h1 h2 h3 h4 h5 h6 => ?_) lt (fun i g h => by rw [hm.1]; exact nx i g h) (fun i b hb => ?_) (Nat.le_refl _) (BelowF.refl _ _ _) (fun i x hx => ?_) (fun i j g h x y h1 h2 h3 h4 h5 => ?_) hΓ
  · obtain ⟨b0, e1, _, e3, _⟩ := hm.2.2 i b h4
    obtain ⟨c0, d1, _, d3, _⟩ := hm.2.2 j c h5
    exact inj i j g h b0 c0 h1 h2 h3 e1 d1 (h6.imp e3 d3)
  · obtain ⟨b0, e1, e2, e3, e4⟩ := hm.2.2 i b hb
    obtain ⟨g, cs, fz, k1, k2, k3, k4, k5⟩ := blk i b0 e1
    exact ⟨g, cs, fz, k1, by rw [e2]; exact k2, k3, e4 g cs _ _ k1 k2 k4, fun hw => ⟨.inr (.inl ⟨i, b, g, hb, hw, k1, rfl⟩), (k5 (e3 hw)).2⟩⟩
  · have hx' := hx
    rw [hm.2.1] at hx
    obtain ⟨g, o, k1, k2, k3, _⟩ := xo i x hx
    exact ⟨g, o, k1, k2, k3, fun ho => .inr (.inr ⟨i, x, g, hx', ho, k1, rfl⟩)⟩
  · rw [hm.2.1] at h4 h5
    exact xi i j g h x y h1 h2 h3 h4 h5
/-- And back. -/
theorem Rel.back {Γ Γ' : Gh} {n0 : Nat} {F : Nat → Prop} {w0 w w' : World} {R R' : Ren} {m m' m2 : SMem} (hR : @Rel Γ n0 F w0 R m w) (hm : Tells R w m m') (h : @Rel Γ' w.heap.size (wrF R m') w R' m2 w') : @Rel Γ n0 F w0 R' m2 w' := by
  have inF := fun {k} => wrF_in hR hm (k := k)
  rcases hR with ⟨inj, lt, nx, blk, base, fr, xo, xi, gl⟩
  rcases h with ⟨inj', lt', nx', blk', base', fr', xo', xi', gl'⟩
  have up : ∀ {k}, w.heap.size ≤ k ∨ wrF R m' k → n0 ≤ k ∨ F k := fun h => h.elim (fun h => .inl (Nat.le_trans base h)) inF
  refine @Rel.mk Γ _ _ _ _ _ _ inj' lt' nx' (fun i b hb => ?_) (Nat.le_trans base base') ⟨fr'.os.trans fr.os, fr'.tape.trans fr.tape, fr'.output.trans fr.output, Nat.le_trans fr.size fr'.size, fun k k1 k2 => ?_, fun k cs ty fz k1 k2 => ?_⟩ (fun i x hx => ?_) xi' gl
  · obtain ⟨g, cs, fz, k1, k2, k3, k4, k5⟩ := blk' i b hb
    exact ⟨g, cs, fz, k1, k2, k3, k4, fun hw => ⟨up (k5 hw).1, (k5 hw).2⟩⟩
  · have : ¬ wrF R m' k := fun hw => (inF hw).elim (fun h => by omega) k2
    exact (fr'.block k (Nat.lt_of_lt_of_le k1 base) this).trans (fr.block k k1 k2)
  · obtain ⟨cs', e1⟩ := fr.froz k cs ty fz k1 k2
    exact fr'.froz k cs' ty fz (Nat.lt_of_lt_of_le k1 base) e1
  · obtain ⟨g, o, k1, k2, k3, k4⟩ := xo' i x hx
    exact ⟨g, o, k1, k2, k3, fun ho => up (k4 ho)⟩
/-- A state is good if it is good by what may be known of it in whatever world. -/
theorem Good.ghost {Γ : Gh} {P : Program} {A : SV → SMem → Prop} {base : Nat} {fs : List SFr} {m : SMem}
    (H : ∀ (n0 : Nat) (F : Nat → Prop) (w0 w : World) (R : Ren) (fr : Frame) (frs : List Frame), All2 (FrOk R) fs (fr :: frs) → @Rel Γ n0 F w0 R m w →
      ∃ (Γ' : Gh) (fs' : List SFr) (m' : SMem), lastFn fs' = lastFn fs ∧ All2 (FrOk R) fs' (fr :: frs) ∧ Tells R w m m' ∧
        (∀ g cs, @GlP Γ' g cs → g < w.heap.size ∧ ¬ wrF R m' g ∧ ∃ cs' ty fz, w.heap[g]? = some (.cells cs' ty fz) ∧ cs'.size = cs.length ∧ ∀ i : Nat, i < cs.length → cs'[i]? = cs[i]?) ∧
        @Good Γ' P A base fs' m') : @Good Γ P A base fs m := by
  intro n0 F w0 ws w Rs R fr frs hf hR hX hs
  obtain ⟨Γ', fs', m', h1, h2, h3, h4, h5⟩ := H n0 F w0 w R fr frs hf hR
  have := h5 _ _ _ ws w Rs R fr frs h2 (hR.base' h3 h4) (by rw [h3.1]; exact hX) hs
  rw [h1] at this
  exact this.mono fun v w' ⟨s, m2, R2, k1, k2, k3, k4⟩ => ⟨s, m2, R2, k1, k2, hR.back h3 k3, k4⟩
/-- What is known, and one block more. -/
@[reducible] def Gh.add (Γ : Gh) (b : Nat) (cs : List Value) : Gh := ⟨fun g l => Γ.tab g l ∨ (g = b ∧ l = cs)⟩
/-- What was known is so still. -/
theorem Rel.known {Γ : Gh} {n0 : Nat} {F : Nat → Prop} {w0 w : World} {R : Ren} {m m' : SMem} (hR : @Rel Γ n0 F w0 R m w) (hm : Tells R w m m') {g : Nat} {cs : List Value} (h : @GlP Γ g cs) :
    g < w.heap.size ∧ ¬ wrF R m' g ∧ ∃ cs' ty fz, w.heap[g]? = some (.cells cs' ty fz) ∧ cs'.size = cs.length ∧ ∀ i : Nat, i < cs.length → cs'[i]? = cs[i]? := by
  obtain ⟨h1, h2, cs', ty, fz, h3, h4⟩ := hR.gl g cs h
  refine ⟨Nat.lt_of_lt_of_le h1 hR.base, fun hw => (wrF_in hR hm hw).elim (fun h => by omega) h2, cs', ty, fz, (hR.fr.block g h1 h2).trans h3, h4⟩
/-- A block that is told no more is known from here on. -/
theorem Rel.learn {Γ : Gh} {n0 : Nat} {F : Nat → Prop} {w0 w : World} {R : Ren} {m m' : SMem} (hR : @Rel Γ n0 F w0 R m w) (hm : Tells R w m m') {id : Nat} {b : SBlk} (hb : getB m.bl id = some b) (hd : getB m'.bl id = Option.none) (hx : m.xs = []) {g : Loc} (hg : R id = some g) {a : Array Value} {ty : TypeId} {fz : Nat × Nat} (ha : w.heap[g.b]? = some (.cells a ty fz)) :
    ∀ k cs, @GlP (Γ.add g.b a.toList) k cs → k < w.heap.size ∧ ¬ wrF R m' k ∧ ∃ cs' ty fz, w.heap[k]? = some (.cells cs' ty fz) ∧ cs'.size = cs.length ∧ ∀ i : Nat, i < cs.length → cs'[i]? = cs[i]? := by
  intro k cs hk
  rcases hk with hk | hk | ⟨rfl, rfl⟩
  · exact hR.known hm (.inl hk)
  · exact hR.known hm (.inr hk)
  · refine ⟨hR.lt _ _ hg, ?_, a, ty, fz, ha, by simp, fun i _ => by simp⟩
    rintro (⟨i, c, g', h1, h2, h3, h4⟩ | ⟨i, x, g', h1, _⟩)
    · obtain ⟨b0, e1, _, e3, _⟩ := hm.2.2 i c h1
      have : i = id := hR.inj i id g' g b0 b h3 hg h4 e1 hb (.inl (e3 h2))
      subst this
      rw [hd] at h1
      cases h1
    · rw [hm.2.1, hx] at h1
      cases h1
/-- A row of one's own that is put into a block at a place which is not known: from here on it is known, and told no more. -/
theorem Good.learn {Γ : Gh} {P : Program} {A : SV → SMem → Prop} {base : Nat} {fs : List SFr} {m : SMem} {tid id : Nat} {ts : Array Value} {o : Nat} {off n : SN} {cap : SK} {tyT : TypeId} {wT : Bool} {b : SBlk}
    (ht : getB m.bl tid = some ⟨.patch ts o (.slice id off n cap), tyT, wT⟩) (hb : getB m.bl id = some b) (hw : b.wr = true) (hx : m.xs = []) (hne : tid ≠ id)
    (H : ∀ (Γ' : Gh) (k c : Nat) (cells : Array Value) (R : Ren), (∀ g cs, @GlP Γ g cs → @GlP Γ' g cs ∧ g ≠ k) → @GlP Γ' k cells.toList → b.arr.okM R cells → n.den ≤ c → cap.ok c cells.size →
      @Good Γ' P A base fs ⟨m.next, (m.bl.set tid (some ⟨.op (ts.setIfInBounds o (.slice (some ⟨k, off.den, none⟩) n.den c)), tyT, wT⟩)).set id none, []⟩) : @Good Γ P A base fs m := by
  refine Good.ghost fun n0 F w0 w R fr frs hf hR => ?_
  obtain ⟨g, cs, fz, k1, k2, k3, k4, _⟩ := hR.blk tid _ ht
  obtain ⟨⟨v, ⟨g', c, e1, e2, e3, e4⟩, e5⟩, e6⟩ : (∃ v, (SF.slice id off n cap).ok R v ∧ cs = ts.setIfInBounds o v) ∧ ∀ v ∈ cs.toList, v.oneCell' = true := k4
  obtain ⟨g2, a, fz2, q1, q2, q3, q4, q5⟩ := hR.blk id b hb
  cases e1.symm.trans q1
  subst e2
  have hget : ∀ {i b'}, getB ((m.bl.set tid (some ⟨.op (ts.setIfInBounds o (.slice (some ⟨g'.b, off.den, none⟩) n.den c)), tyT, wT⟩)).set id none) i = some b' →
      i ≠ id ∧ ((i = tid ∧ b' = ⟨.op (ts.setIfInBounds o (.slice (some ⟨g'.b, off.den, none⟩) n.den c)), tyT, wT⟩) ∨ getB m.bl i = some b') := by
    intro i b' h
    rw [getB_set] at h
    split at h
    · cases h
    · rename_i h1
      rw [getB_set] at h
      split at h
      · rename_i h2
        cases h
        exact ⟨h1, .inl ⟨h2, rfl⟩⟩
      · exact ⟨h1, .inr h⟩
  have hT : Tells R w m ⟨m.next, (m.bl.set tid (some ⟨.op (ts.setIfInBounds o (.slice (some ⟨g'.b, off.den, none⟩) n.den c)), tyT, wT⟩)).set id none, []⟩ := by
    refine ⟨rfl, hx.symm, fun i b' h => ?_⟩
    rcases (hget h).2 with ⟨rfl, rfl⟩ | h1
    · refine ⟨_, ht, rfl, fun h => h, fun g3 cs3 ty3 fz3 r1 r2 r3 => ?_⟩
      cases k1.symm.trans r1
      cases k2.symm.trans r2
      exact ⟨e5, e6⟩
    · exact ⟨b', h1, rfl, fun h => h, fun _ _ _ _ _ _ h => h⟩
  have hd : getB ((m.bl.set tid (some ⟨.op (ts.setIfInBounds o (.slice (some ⟨g'.b, off.den, none⟩) n.den c)), tyT, wT⟩)).set id none) id = none := by
    rw [getB_set, if_pos rfl]
  exact ⟨Γ.add g'.b a.toList, fs, _, rfl, hf, hT, hR.learn hT hb hd hx q1 q2, H _ _ _ a R (fun g cs h => ⟨h.imp (fun h => h) fun h => .inl h, fun e => by
    obtain ⟨r1, r2, _⟩ := hR.gl g cs h
    subst e
    exact (q5 hw).1.elim (fun h => by omega) r2⟩) (.inr (.inr ⟨rfl, rfl⟩)) q4 e4 (by rw [q3]; exact e3)⟩
end Go.Proofs.YtjjeahnbppmigaaDoor
