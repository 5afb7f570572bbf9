/- A region that draws its order: the proof's end; what is run is so. No condition. -/
import Derived.Test.YtjjeahnbppmigaaDoorK21
set_option linter.unusedVariables false
set_option linter.unusedSimpArgs false
namespace Go.Proofs.YtjjeahnbppmigaaDoor
set_option linter.unusedSectionVars false
variable [Gh]

section
variable (dfs : List Deferred) (ds : List DRec) (T : Tm) (m : SMem) (ms : Nat → SMem) (n0 : Nat) (F : Nat → Prop) (w0 : World) (R : Ren) (w : World)
omit [Gh] in
def recT (len : Nat) (i t : Nat) : Option (Option SV) := match ds[i]? with
  | some d => if d.dst = some t ∧ t < len then some (some d.v) else none
  | none => none
omit [Gh] in
noncomputable def recB (i id : Nat) : Option (Option SBlk) := match ds[i]? with
  | some d => match getL d.bl id with
    | some b => some (some b)
    | none => if memB d.del id = true then some none else none
  | none => none
omit [Gh] in
def recX (i id : Nat) : Option (Option XO) := match ds[i]? with
  | some d => (getX d.xs id).map some
  | none => none
omit [Gh] in
structure DInv (base : Nat) (D : Nat → Bool) (R1 : Ren) (a : Act) (w1 : World) : Prop where
  defers : a.defers = dfs
  size : a.tmps.size = T.n
  ext : Ext R R1
  new : ∀ i g, R1 i = some g → R i = some g ∨ (m.next ≤ i ∧ (w.heap.size ≤ g.b ∨ ∃ p, base ≤ p ∧ R p = some g))
  grows : w.heap.size ≤ w1.heap.size
  tm : ∀ t s, stat T.get (recT ds T.n) D ds.length t = some s → ∃ v, a.tmps[t]? = some v ∧ s.ok R1 v
  inj : ∀ i j g h b c, R1 i = some g → R1 j = some h → g.b = h.b → stat (getB m.bl) (recB ds) D ds.length i = some b → stat (getB m.bl) (recB ds) D ds.length j = some c → b.wr = true ∨ c.wr = true → i = j
  lt : ∀ i g, R1 i = some g → g.b < w1.heap.size
  dom : ∀ i g, R1 i = some g → i < m.next ∨ ∃ k, k < ds.length ∧ D k = true ∧ (ms k).next ≤ i ∧ i < (ms (k + 1)).next
  blk : ∀ i b, stat (getB m.bl) (recB ds) D ds.length i = some b → ∃ g cs fz, R1 i = some g ∧ w1.heap[g.b]? = some (.cells cs b.ty fz) ∧ cs.size = g.n ∧ b.arr.okM R1 cs ∧ (b.wr = true → (n0 ≤ g.b ∨ F g.b) ∧ FzOk fz cs.size)
  base : n0 ≤ w1.heap.size
  fr : BelowF n0 F w0 w1
  xo : ∀ i x, stat (getX m.xs) (recX ds) D ds.length i = some x → ∃ g o, R1 i = some g ∧ w1.heap[g.b]? = some o ∧ x.ok R1 o ∧ (x.own = true → n0 ≤ g.b ∨ F g.b)
  xi : ∀ i j g h x y, R1 i = some g → R1 j = some h → g.b = h.b → stat (getX m.xs) (recX ds) D ds.length i = some x → stat (getX m.xs) (recX ds) D ds.length j = some y → i = j
end

omit [Gh] in
def ExtD (b0 : Nat) (del : List Nat) (loc : Tr SBlk) (w w' : World) (n n' : Nat) (R1 R2 : Ren) : Prop :=
  Ext (cutR R1 n) R2 ∧ (∀ i g, R2 i = some g → cutR R1 n i = some g ∨ (n ≤ i ∧ (w.heap.size ≤ g.b ∨ ∃ p b, b0 ≤ p ∧ memB del p = true ∧ getB loc p = some b ∧ b.wr = true ∧ R1 p = some g))) ∧ w.heap.size ≤ w'.heap.size ∧ n ≤ n'
omit [Gh] in
theorem ExtN.toD {b0 : Nat} {del : List Nat} {loc : Tr SBlk} {w w' : World} {n n' : Nat} {R1 R2 : Ren} (h : ExtN w w' n n' (cutR R1 n) R2) : ExtD b0 del loc w w' n n' R1 R2 :=
  ⟨h.1, fun i g hi => (h.2.1 i g hi).imp (fun x => x) fun h => ⟨h.2, .inl h.1⟩, h.2.2.1, h.2.2.2⟩
section
variable {base : Nat} {dfs : List Deferred} {ds : List DRec} {T : Tm} {m : SMem} {ms : Nat → SMem} {n0 : Nat} {F : Nat → Prop} {w0 : World} {R : Ren} {w : World} {D : Nat → Bool} {R1 : Ren} {a : Act} {w1 : World}
theorem DInv.after (inv : DInv dfs ds T m ms n0 F w0 R w base D R1 a w1) {j : Nat} {d : DRec} (hj : ds[j]? = some d) (hD : D j = false)
    (hms0 : (ms 0).next = m.next) (hmono : ∀ i, i < ds.length → (ms i).next ≤ (ms (i + 1)).next)
    (hT : ∀ t, recT ds T.n j t ≠ none → ∀ i, j < i → i < ds.length → D i = true → recT ds T.n i t = none)
    (hB : ∀ id, recB ds j id ≠ none → ∀ i, j < i → i < ds.length → D i = true → recB ds i id = none)
    (hXx : ∀ id, recX ds j id ≠ none → ∀ i, j < i → i < ds.length → D i = true → recX ds i id = none)
    (hxl : ∀ i x, getX d.xs i = some x → (ms j).next ≤ i)
    (hRn : ∀ i g, R i = some g → i < m.next) (hdel : ∀ p, memB d.del p = true → getL d.bl p = none) (hdx : ∀ i x p, getX d.xs i = some x → memB d.del p = true → False)
    {loc : Tr SBlk} (hloc : ∀ i b, getB loc i = some b → b.wr = true → (getL d.bl i).isSome = true ∨ memB d.del i = true) (hlocs : ∀ i b, getB loc i = some b → ∃ c, stat (getB m.bl) (recB ds) D ds.length i = some c ∧ (b.wr = true → c.wr = true))
    (hsame : ∀ i b, getL d.bl i = some b → i < (ms j).next → ∃ c, getB loc i = some c ∧ c.wr = b.wr)
    {R2 : Ren} {m1 : SMem} {w2 : World} {u : Value} (hx : ExtD base d.del loc w1 w2 (ms j).next m1.next R1 R2) (hn1 : m1.next = (ms (j + 1)).next)
    (hR : Rel w1.heap.size (fun k => ∃ i b g, getB loc i = some b ∧ b.wr = true ∧ R1 i = some g ∧ g.b = k ∧ (n0 ≤ k ∨ F k)) w1 R2 m1 w2) (hbl : ∀ i b, getL d.bl i = some b → getB m1.bl i = some b) (hxs : ∀ i x, getX d.xs i = some x → getX m1.xs i = some x) (hu : d.v.ok R2 u) :
    ∃ R3, DInv dfs ds T m ms n0 F w0 R w base (fun i => i == j || D i) R3 (a.put d.dst u) w2 := by
  have hjl : j < ds.length := (List.getElem?_eq_some_iff.1 hj).1
  have mono : ∀ i k, i ≤ k → k ≤ ds.length → (ms i).next ≤ (ms k).next := by
    intro i k hik
    induction k with
    | zero =>
      intro _
      obtain rfl : i = 0 := (by omega)
      exact Nat.le_refl _
    | succ k ih =>
      intro hk
      by_cases e : i = k + 1
      · rw [e]; exact Nat.le_refl _
      · exact Nat.le_trans (ih (by omega) (by omega)) (hmono k (by omega))
  have hold : ∀ i g, R1 i = some g → ¬ ((ms j).next ≤ i ∧ i < (ms (j + 1)).next) := by
    rintro i g hi ⟨h1, h2⟩
    rcases inv.dom i g hi with h | ⟨k, hk, hDk, h3, h4⟩
    · have := mono 0 j (by omega) (by omega)
      omega
    · have hne : k ≠ j := by rintro rfl; rw [hD] at hDk; cases hDk
      rcases Nat.lt_or_ge k j with hlt | hge
      · have := mono (k + 1) j (by omega) (by omega); omega
      · have := mono (j + 1) k (by omega) (by omega); omega
  let Al : Loc → Prop := fun g => ∃ p b, base ≤ p ∧ memB d.del p = true ∧ getB loc p = some b ∧ b.wr = true ∧ R1 p = some g
  have hnew : ∀ i g, R2 i = some g → (R1 i = some g ∧ i < (ms j).next) ∨ ((w1.heap.size ≤ g.b ∨ Al g) ∧ (ms j).next ≤ i ∧ i < (ms (j + 1)).next) := by
    intro i g hi
    have hlt := hR.nx i g hi
    rw [hn1] at hlt
    rcases hx.2.1 i g hi with h | ⟨h1, h2⟩
    · unfold cutR at h
      split at h
      · rename_i hlt'; exact .inl ⟨h, hlt'⟩
      · cases h
    · exact .inr ⟨h2, h1, hlt⟩
  let R3 : Ren := fun i => if (ms j).next ≤ i ∧ i < (ms (j + 1)).next then R2 i else R1 i
  have e1 : Ext R1 R3 := by
    intro i g hi
    show (if _ then _ else _) = _
    rw [if_neg (hold i g hi)]
    exact hi
  have e2 : Ext R2 R3 := by
    intro i g hi
    show (if _ then _ else _) = _
    rcases hnew i g hi with ⟨h1, h2⟩ | ⟨_, h2, h3⟩
    · rw [if_neg (by omega)]; exact h1
    · rw [if_pos ⟨h2, h3⟩]; exact hi
  have hcase : ∀ i g, R3 i = some g → R1 i = some g ∨ (R2 i = some g ∧ (w1.heap.size ≤ g.b ∨ Al g) ∧ (ms j).next ≤ i ∧ i < (ms (j + 1)).next) := by
    intro i g hi
    replace hi : (if (ms j).next ≤ i ∧ i < (ms (j + 1)).next then R2 i else R1 i) = some g := hi
    split at hi
    · rename_i hr
      rcases hnew i g hi with ⟨_, h2⟩ | ⟨h1, _⟩
      · omega
      · exact .inr ⟨hi, h1, hr⟩
    · exact .inl hi
  have hm0 : m.next ≤ (ms j).next := hms0 ▸ mono 0 j (by omega) (by omega)
  have seeX : ∀ {i x}, stat (getX m.xs) (recX ds) (fun i => i == j || D i) ds.length i = some x → getX d.xs i = some x ∨ (getX d.xs i = none ∧ stat (getX m.xs) (recX ds) D ds.length i = some x) := by
    intro i x hx'
    rw [stat_put hjl hD (hXx i)] at hx'
    unfold recX at hx'
    rw [hj] at hx'
    dsimp only at hx'
    cases hg : getX d.xs i with
    | some c =>
      rw [hg] at hx'
      simp only [Option.map_some, Option.getD_some, Option.some.injEq] at hx'
      exact .inl (congrArg some hx')
    | none =>
      rw [hg] at hx'
      simp only [Option.map_none, Option.getD_none] at hx'
      exact .inr ⟨rfl, hx'⟩
  refine ⟨R3, ?_, ?_, inv.ext.trans e1, ?_, ?_, ?_, ?_, ?_, ?_, ?_, ?_, ?_, ?_, ?_⟩
  · rw [dst_defers]; exact inv.defers
  · rw [← inv.size]
    cases d.dst <;> simp [Act.put]
  · intro i g hi
    rcases hcase i g hi with h | ⟨_, h2, h3, _⟩
    · exact inv.new i g h
    · rcases h2 with h2 | ⟨p, b, h4, _, _, _, h5⟩
      · exact .inr ⟨by omega, .inl (Nat.le_trans inv.grows h2)⟩
      · rcases inv.new p g h5 with h6 | ⟨_, h6⟩
        · exact .inr ⟨by omega, .inr ⟨p, h4, h6⟩⟩
        · exact .inr ⟨by omega, h6⟩
  · exact Nat.le_trans inv.grows hx.2.2.1
  · intro t x ht
    rw [stat_put hjl hD (hT t)] at ht
    unfold recT at ht
    rw [hj] at ht
    dsimp only at ht
    by_cases hc : d.dst = some t ∧ t < T.n
    · rw [if_pos hc, Option.getD_some] at ht
      cases ht
      refine ⟨u, ?_, SV.mono e2 hu⟩
      rw [hc.1]
      simp only [Act.put]
      rw [Array.getElem?_setIfInBounds_self_of_lt (by rw [inv.size]; exact hc.2)]
    · rw [if_neg hc, Option.getD_none] at ht
      obtain ⟨v, h1, h2⟩ := inv.tm t x ht
      refine ⟨v, ?_, SV.mono e1 h2⟩
      cases hd : d.dst with
      | none => exact h1
      | some t' =>
        have hne : t' ≠ t := by
          rintro rfl
          have hlt : t' < a.tmps.size := (Array.getElem?_eq_some_iff.1 h1).1
          exact hc ⟨hd, inv.size ▸ hlt⟩
        simp only [Act.put]
        rw [Array.getElem?_setIfInBounds_ne hne]
        exact h1
  · intro i k g h b c hi hk hgh hb hc hw
    have see : ∀ i b, stat (getB m.bl) (recB ds) (fun i => i == j || D i) ds.length i = some b → (∃ c, getL d.bl i = some c ∧ c = b) ∨ (getL d.bl i = none ∧ stat (getB m.bl) (recB ds) D ds.length i = some b) := by
      intro i b hb
      rw [stat_put hjl hD (hB i)] at hb
      unfold recB at hb
      rw [hj] at hb
      dsimp only at hb
      cases hg : getL d.bl i with
      | some c =>
        rw [hg] at hb
        simp only [Option.getD_some, Option.some.injEq] at hb
        exact .inl ⟨c, rfl, hb⟩
      | none =>
        rw [hg] at hb
        dsimp only at hb
        split at hb
        · cases hb
        · exact .inr ⟨rfl, hb⟩
    have gone : ∀ p b, memB d.del p = true → stat (getB m.bl) (recB ds) (fun i => i == j || D i) ds.length p = some b → False := by
      intro p b hp hb
      rw [stat_put hjl hD (hB p)] at hb
      unfold recB at hb
      rw [hj] at hb
      dsimp only at hb
      rw [hdel p hp] at hb
      dsimp only at hb
      rw [if_pos hp] at hb
      cases hb
    have alias : ∀ i k g h b c, R1 i = some g → stat (getB m.bl) (recB ds) (fun i => i == j || D i) ds.length i = some b → getB m1.bl k = some c → w1.heap.size ≤ h.b ∨ Al h → g.b = h.b → (∀ b' , R1 i = some g → stat (getB m.bl) (recB ds) D ds.length i = some b' → True) → (∃ b', stat (getB m.bl) (recB ds) D ds.length i = some b') → False := by
      intro i k g h b c h1 hb _ h2 he _ hb'
      rcases h2 with h2 | ⟨p, bp, _, h4, h5, h6, h7⟩
      · have := inv.lt i g h1; omega
      · obtain ⟨cp, h8, h9⟩ := hlocs p bp h5
        obtain ⟨b', hb'⟩ := hb'
        obtain rfl : i = p := inv.inj i p g h b' cp h1 h7 he hb' h8 (.inr (h9 h6))
        exact gone i b h4 hb
    have old : ∀ i b g, stat (getB m.bl) (recB ds) (fun i => i == j || D i) ds.length i = some b → R1 i = some g → ∃ b', stat (getB m.bl) (recB ds) D ds.length i = some b' ∧ (b.wr = true → b'.wr = true) := by
      intro i b g hb hg
      rcases see i b hb with ⟨c, h1, rfl⟩ | ⟨_, h2⟩
      · have hlt : i < (ms j).next := by
          have h2 := hold i g hg
          have h3 := hR.blk i c (hbl i c h1)
          obtain ⟨g', _, _, k1, _⟩ := h3
          have := hR.nx i g' k1
          rw [hn1] at this
          omega
        obtain ⟨c', k1, k2⟩ := hsame i c h1 hlt
        obtain ⟨c2, k3, k4⟩ := hlocs i c' k1
        exact ⟨c2, k3, fun hw => k4 (by rw [k2]; exact hw)⟩
      · exact ⟨b, h2, id⟩
    have new : ∀ i b g, stat (getB m.bl) (recB ds) (fun i => i == j || D i) ds.length i = some b → R2 i = some g → (ms j).next ≤ i → i < (ms (j + 1)).next → getB m1.bl i = some b := by
      intro i b g hb hg h1 h2
      rcases see i b hb with ⟨c, h1, rfl⟩ | ⟨_, h3⟩
      · exact hbl i c h1
      · obtain ⟨g', _, _, k1, _⟩ := inv.blk i b h3
        exact (hold i g' k1 ⟨h1, h2⟩).elim
    rcases hcase i g hi with h1 | ⟨h1, h2, h3, h4⟩ <;> rcases hcase k h hk with k1 | ⟨k1, k2, k3, k4⟩
    · obtain ⟨b', e1, e2⟩ := old i b g hb h1
      obtain ⟨c', e3, e4⟩ := old k c h hc k1
      exact inv.inj i k g h b' c' h1 k1 hgh e1 e3 (hw.imp e2 e4)
    · obtain ⟨b', e1, _⟩ := old i b g hb h1
      exact (alias i k g h b c h1 hb (new k c h hc k1 k3 k4) k2 hgh (fun _ _ _ => trivial) ⟨b', e1⟩).elim
    · obtain ⟨c', e1, _⟩ := old k c h hc k1
      exact (alias k i h g c b k1 hc (new i b g hb h1 h3 h4) h2 hgh.symm (fun _ _ _ => trivial) ⟨c', e1⟩).elim
    · exact hR.inj i k g h b c h1 k1 hgh (new i b g hb h1 h3 h4) (new k c h hc k1 k3 k4) hw
  · intro i g hi
    rcases hcase i g hi with h1 | ⟨h1, _⟩
    · exact Nat.lt_of_lt_of_le (inv.lt i g h1) hx.2.2.1
    · exact hR.lt i g h1
  · intro i g hi
    rcases hcase i g hi with h1 | ⟨_, _, h3, h4⟩
    · rcases inv.dom i g h1 with h | ⟨k, hk, hDk, h5⟩
      · exact .inl h
      · exact .inr ⟨k, hk, by simp [hDk], h5⟩
    · exact .inr ⟨j, hjl, by simp, h3, h4⟩
  · intro i b hb
    rw [stat_put hjl hD (hB i)] at hb
    unfold recB at hb
    rw [hj] at hb
    dsimp only at hb
    cases hg : getL d.bl i with
    | some c =>
      rw [hg] at hb
      simp only [Option.getD_some, Option.some.injEq] at hb
      subst hb
      obtain ⟨g, cs, fz, h1, h2, hs, h3, h4⟩ := hR.blk i c (hbl i c hg)
      refine ⟨g, cs, fz, e2 _ _ h1, h2, hs, SA.monoM e2 h3, fun hw => ?_⟩
      obtain ⟨h5, h6⟩ := h4 hw
      refine ⟨?_, h6⟩
      rcases h5 with h5 | ⟨_, _, _, _, _, _, _, h5⟩
      · exact .inl (Nat.le_trans inv.base h5)
      · exact h5
    | none =>
      rw [hg] at hb
      dsimp only at hb
      split at hb
      · cases hb
      rename_i hnd
      have hb : stat (getB m.bl) (recB ds) D ds.length i = some b := hb
      obtain ⟨g, cs, fz, h1, h2, hs, h3, h4⟩ := inv.blk i b hb
      refine ⟨g, cs, fz, e1 _ _ h1, ?_, hs, SA.monoM e1 h3, h4⟩
      rw [← h2]
      refine hR.fr.block g.b (inv.lt _ _ h1) ?_
      rintro ⟨i', b', g', k1, k2, k3, k4, _⟩
      obtain ⟨c', k5, k6⟩ := hlocs i' b' k1
      obtain rfl : i' = i := inv.inj _ _ _ _ _ _ k3 h1 k4 k5 hb (.inl (k6 k2))
      rcases hloc i' b' k1 k2 with this | this
      · rw [hg] at this
        cases this
      · exact hnd this
  · exact Nat.le_trans inv.base hx.2.2.1
  · refine inv.fr.trans ⟨hR.fr.os, hR.fr.tape, hR.fr.output, hR.fr.size, fun k hk hf => hR.fr.block k (by have := inv.base; omega) ?_, fun k cs ty fz hk hc => hR.fr.froz k cs ty fz (by have := inv.base; omega) hc⟩
    rintro ⟨_, _, _, _, _, _, _, h | h⟩
    · omega
    · exact hf h
  · intro i x hx'
    rcases seeX hx' with h | ⟨_, h⟩
    · obtain ⟨g, o, k1, k2, k3, k4⟩ := hR.xoN (fun k hF => by
        obtain ⟨i', b', g', l1, l2, l3, l4, _⟩ := hF
        obtain ⟨c', l5, l6⟩ := hlocs i' b' l1
        obtain ⟨g2, cs, fz, q1, q2, _⟩ := inv.blk i' c' l5
        have e : some g' = some g2 := l3.symm.trans q1
        cases e
        exact ⟨cs, _, fz, l4 ▸ q2⟩) i x (hxs i x h)
      exact ⟨g, o, e2 _ _ k1, k2, XO.mono e2 k3, fun hw => .inl (Nat.le_trans inv.base (k4 hw))⟩
    · obtain ⟨g, o, k1, k2, k3, k4⟩ := inv.xo i x h
      refine ⟨g, o, e1 _ _ k1, ?_, XO.mono e1 k3, k4⟩
      rw [← k2]
      refine hR.fr.block g.b (inv.lt _ _ k1) ?_
      rintro ⟨i', b', g', l1, l2, l3, l4, _⟩
      obtain ⟨c', l5, l6⟩ := hlocs i' b' l1
      obtain ⟨g2, cs, fz, q1, q2, _⟩ := inv.blk i' c' l5
      have e : some g' = some g2 := l3.symm.trans q1
      cases e
      rw [l4, k2] at q2
      cases q2
      exact XO.not_cells k3 rfl
  · intro i k gi gk x y hi hk hg hx' hy'
    have old : ∀ {i x}, stat (getX m.xs) (recX ds) D ds.length i = some x → ∃ g, R1 i = some g ∧ g.b < w1.heap.size := fun h => by
      obtain ⟨g, o, k1, k2, _⟩ := inv.xo _ _ h
      exact ⟨g, k1, (Array.getElem?_eq_some_iff.1 k2).1⟩
    have new : ∀ {i x}, getX d.xs i = some x → ∃ g, R2 i = some g ∧ w1.heap.size ≤ g.b := fun h => by
      obtain ⟨g, o, k1, k2, _⟩ := hR.xo _ _ (hxs _ _ h)
      rcases hnew _ _ k1 with ⟨_, h3⟩ | ⟨h3 | ⟨p, _, _, h4, _⟩, _⟩
      · have := hxl _ _ h; omega
      · exact ⟨g, k1, h3⟩
      · exact (hdx _ _ p h h4).elim
    rcases seeX hx' with h1 | ⟨_, h1⟩ <;> rcases seeX hy' with h2 | ⟨_, h2⟩
    · obtain ⟨g1, p1, _⟩ := new h1
      obtain ⟨g2, p2, _⟩ := new h2
      have q1 : some gi = some g1 := hi.symm.trans (e2 _ _ p1)
      have q2 : some gk = some g2 := hk.symm.trans (e2 _ _ p2)
      cases q1
      cases q2
      exact hR.xi i k _ _ x y p1 p2 hg (hxs _ _ h1) (hxs _ _ h2)
    · obtain ⟨g1, p1, p3⟩ := new h1
      obtain ⟨g2, p2, p4⟩ := old h2
      have q1 : some gi = some g1 := hi.symm.trans (e2 _ _ p1)
      have q2 : some gk = some g2 := hk.symm.trans (e1 _ _ p2)
      cases q1
      cases q2
      omega
    · obtain ⟨g1, p1, p3⟩ := old h1
      obtain ⟨g2, p2, p4⟩ := new h2
      have q1 : some gi = some g1 := hi.symm.trans (e1 _ _ p1)
      have q2 : some gk = some g2 := hk.symm.trans (e2 _ _ p2)
      cases q1
      cases q2
      omega
    · obtain ⟨g1, p1, _⟩ := old h1
      obtain ⟨g2, p2, _⟩ := old h2
      have q1 : some gi = some g1 := hi.symm.trans (e1 _ _ p1)
      have q2 : some gk = some g2 := hk.symm.trans (e1 _ _ p2)
      cases q1
      cases q2
      exact inv.xi i k _ _ x y p1 p2 hg h1 h2
end

omit [Gh] in
theorem wpOp_value {P : Program} {ops : Array Oper} {Q : Exit → Act → World → Prop} {j : Nat} {o : Oper} {K : Act → World → Prop} {a : Act} {w w' : World} {v : Value} (ho : ops[j]? = some o) (hw : Region.wanted o (yielded ops a.tmps) = true)
    (h : Ends P a o w w' v) (hK : K (a.put o.dst v) w') : wpOp P ops Q j K a w := by
  unfold wpOp
  simp only [ho, hw, if_true]
  refine .inl ?_
  unfold Oper.wp
  rcases h with h | ⟨h, rfl⟩ <;> rw [h] <;> exact hK
omit [Gh] in
theorem wpOp_call {P : Program} {ops : Array Oper} {Q : Exit → Act → World → Prop} {j : Nat} {o : Oper} {K : Act → World → Prop} {a : Act} {w w' : World} {g : FuncId} {args : Array Value} {Φ : Value → World → Prop} (ho : ops[j]? = some o)
    (hw : Region.wanted o (yielded ops a.tmps) = true) (h : (execOp a.eval o).run P w = .ok (.enter g args) w') (hc : Answers P g args w' Φ) (hK : ∀ v w2, Φ v w2 → K (a.put o.dst v) w2) : wpOp P ops Q j K a w := by
  unfold wpOp
  simp only [ho, hw, if_true]
  refine .inl ?_
  unfold Oper.wp
  rw [h]
  refine Calls.mono hc ?_
  rintro e w2 ⟨v, rfl, hv⟩
  exact hK v w2 hv

section
variable {E : Env} (hE : EnvOk E) {r : Nat → List SFr → SMem → Tree} (hr : RunOk E r)
include hE hr
theorem dop_ok {ops : Array Oper} {o : Oper} {j : Nat} {b0 : Nat} {T : Tm} {m : SMem} {d : DRec} {n1 : Nat} (h : DoneBy E r ops o b0 T m d n1) (ho : ops[j]? = some o) {R1 : Ren} {a : Act} {w1 : World} {X : Nat → Prop}
    (hT : TmOk (cutR R1 m.next) T a)
    (hR : ∀ wr, Rel w1.heap.size (fun k => ∃ i b g, getB (onlyB m.next wr m.bl d.foot) i = some b ∧ b.wr = true ∧ R1 i = some g ∧ g.b = k ∧ X k) w1 (cutR R1 m.next) ⟨m.next, onlyB m.next wr m.bl d.foot, onlyX m.xs m.next d.foot⟩ w1) :
    d.dst = o.dst ∧ d.looks = o.looksAt ops ∧ (∀ i x, getX d.xs i = some x → m.next ≤ i) ∧ (∀ p, memB d.del p = true → getL d.bl p = none) ∧ (∀ i x p, getX d.xs i = some x → memB d.del p = true → False) ∧
      ∃ loc : Tr SBlk, (∀ i b, getB loc i = some b → b.wr = true → (getL d.bl i).isSome = true ∨ memB d.del i = true) ∧
      (∀ i b, getL d.bl i = some b → i < m.next → ∃ c, getB loc i = some c ∧ c.wr = b.wr) ∧ (∀ i b, getB loc i = some b → i ∈ d.foot ∧ ∃ c, getB m.bl i = some c ∧ (b.wr = true → c.wr = true)) ∧
      ∀ (K : Act → World → Prop) (Q : Exit → Act → World → Prop), (∀ R2 m1 w2 u, ExtD b0 d.del loc w1 w2 m.next m1.next R1 R2 → m1.next = n1 →
        Rel w1.heap.size (fun k => ∃ i b g, getB loc i = some b ∧ b.wr = true ∧ R1 i = some g ∧ g.b = k ∧ X k) w1 R2 m1 w2 → (∀ i b, getL d.bl i = some b → getB m1.bl i = some b) → (∀ i x, getX d.xs i = some x → getX m1.xs i = some x) → d.v.ok R2 u →
        K (a.put d.dst u) w2) → wpOp E.P ops Q j K a w1 := by
  have below : ∀ (wr : Bool) (foot : List Nat) i b, getB (onlyB m.next wr m.bl foot) i = some b → i ∈ foot ∧ ∃ c, getB m.bl i = some c ∧ (b.wr = true → c.wr = true) := by
    intro wr foot i b hb
    obtain ⟨h1, c, h2, _, rfl⟩ := onlyB_get hb
    refine ⟨h1, c, h2, fun hw => ?_⟩
    simp only [Bool.and_eq_true] at hw
    exact hw.1
  have nodel : ∀ {p : Nat}, memB [] p = true → False := fun h => by cases h
  have noW : ∀ (foot : List Nat) i b, getB (onlyB m.next false m.bl foot) i = some b → b.wr = true → False := by
    intro foot i b hb hw
    obtain ⟨_, c, _, _, rfl⟩ := onlyB_get hb
    simp at hw
  have keep : ∀ {x y : Tr SBlk} {foot up : List Nat}, keepB x y foot = true → ∀ i b, i ∈ foot → getB x i = some b → (getL (collect y (foot ++ up)) i).isSome = true := by
    intro x y foot up hk i b hi hb
    obtain ⟨c, hc⟩ := keepB_iff hk hi hb
    rw [collect_some hc (List.mem_append_left _ hi)]
    rfl
  have same : ∀ {n k : Nat} {x y : Tr SBlk} {foot : List Nat}, sameB x y foot = true → ∀ i b, getL (collect y (foot ++ upFrom k n)) i = some b → i < n → ∃ c, getB x i = some c ∧ c.wr = b.wr := by
    intro n k x y foot hk i b hb hi
    obtain ⟨h1, h2⟩ := collect_get hb
    rcases List.mem_append.1 h1 with h1 | h1
    · exact sameB_iff hk h1 h2
    · have := upFrom_mem h1
      omega
  have noX : ∀ {bl : Tr SBlk} {xs : List XB} {n0 : Nat} {F : Nat → Prop} {w0 w : World} {R : Ren}, Rel n0 F w0 R ⟨m.next, bl, xs⟩ w → Rel n0 F w0 R ⟨m.next, bl, []⟩ w := fun h =>
    ⟨h.inj, h.lt, h.nx, h.blk, h.base, h.fr, fun _ _ hx => (by cases hx), fun _ _ _ _ _ _ _ _ _ hx => (by cases hx), h.gl⟩
  cases h with
  | skip hw hb =>
    have hwant := want_ok hw hT
    rw [hb] at hwant
    refine ⟨rfl, rfl, fun _ _ h => (by cases h), fun _ h => (nodel h).elim, fun _ _ _ _ h => nodel h, onlyB m.next false m.bl [], fun i b h1 h2 => (noW _ i b h1 h2).elim, fun i b hb => (by cases hb), below _ _, fun K Q hK => ?_⟩
    unfold wpOp
    simp only [ho, hwant, Bool.false_eq_true, if_false]
    exact hK _ ⟨m.next, onlyB m.next false m.bl [], []⟩ w1 undef (ExtN.toD (ExtN.refl _ _ _)) rfl (hR false) (fun i b hb => by cases hb) (fun i x hx => by cases hx) ⟨#[], rfl, trivial⟩
  | con hw hb hcl hcon hsat hk1 hk2 =>
    have hwant := want_ok hw hT
    rw [hb] at hwant
    obtain ⟨fn, hfn, hbd, hans⟩ := hE.con _ _ _ _ _ hcon hsat
    obtain ⟨hpf, hpn⟩ := hE.fns _ _ hfn
    obtain ⟨args, ha1, ha2⟩ := callS_ok (w := w1) hcl hT hpf hpn hbd
    rename_i b1 g1 l1 t1 v1 m1
    generalize hfo : reach m.bl 8 _ = foot at *
    have sub : ∀ i b, getB (onlyB m.next true m.bl (chgs (onlyB m.next true m.bl foot) m1.bl foot)) i = some b → i ∈ chgs (onlyB m.next true m.bl foot) m1.bl foot ∧ getB (onlyB m.next true m.bl foot) i = some b := by
      intro i b hb
      obtain ⟨e1, c, e2, e3, rfl⟩ := onlyB_get hb
      exact ⟨e1, onlyB_some e2 e3 (chgs_mem e1).1⟩
    have sup : ∀ i b, getB (onlyB m.next true m.bl foot) i = some b → left1 (onlyB m.next true m.bl foot) m1.bl i = false → getB (onlyB m.next true m.bl (chgs (onlyB m.next true m.bl foot) m1.bl foot)) i = some b := by
      intro i b hb hl
      obtain ⟨e1, c, e2, e3, rfl⟩ := onlyB_get hb
      exact onlyB_some e2 e3 (mem_chgs e1 hl)
    have lt : ∀ i b, getB (onlyB m.next true m.bl foot) i = some b → i < m.next := by
      intro i b hb
      obtain ⟨_, c, _, e3, _⟩ := onlyB_get hb
      simp only [Bool.and_eq_true] at e3
      exact by simpa using e3.1
    refine ⟨rfl, rfl, fun i x h => (newsX_get h).1, fun _ h => (nodel h).elim, fun _ _ _ _ h => nodel h, onlyB m.next true m.bl (chgs (onlyB m.next true m.bl foot) m1.bl foot), fun i b h1 _ => .inl ?_, fun i b hb hi => ?_, fun i b hb => ?_, fun K Q hK => ?_⟩
    · obtain ⟨e1, e2⟩ := sub i b h1
      obtain ⟨c, hc⟩ := keepB_iff hk1 (chgs_mem e1).1 e2
      rw [collect_some hc (List.mem_append_left _ e1)]
      rfl
    · obtain ⟨e1, e2⟩ := collect_get hb
      rcases List.mem_append.1 e1 with e1 | e1
      · obtain ⟨y, hy, hw⟩ := sameB_iff hk2 (chgs_mem e1).1 e2
        exact ⟨y, sup i y hy (chgs_mem e1).2, hw⟩
      · have := upFrom_mem e1
        omega
    · obtain ⟨e1, e2⟩ := sub i b hb
      exact ⟨(chgs_mem e1).1, (below true foot i b e2).2⟩
    refine wpOp_call ho hwant ha2 (hans _ _ _ w1 _ args ha1 (noX (hR true))) ?_
    rintro u w2 ⟨s, m2, R2, ⟨rfl, rfl⟩, h1, h2, h3⟩
    have un : ∀ i, memB (foot.filter (left1 (onlyB m.next true m.bl foot) m2.bl)) i = true ↔ i ∈ foot ∧ left1 (onlyB m.next true m.bl foot) m2.bl i = true := by
      intro i
      rw [memB_iff, List.mem_filter]
    have inF : ∀ i x, left1 (onlyB m.next true m.bl foot) m2.bl i = true → getB (onlyB m.next true m.bl foot) i = some x → i ∈ foot := fun i x _ hx => (onlyB_get hx).1
    have hl := Rel.left (R1 := R1) (fun i g h => cutR_ext i g h) inF (hR true) h2 h1.1
    have out : ∀ {i b}, getB (delB (foot.filter (left1 (onlyB m.next true m.bl foot) m2.bl)) m2.bl) i = some b → getB m2.bl i = some b ∧ ¬ (i ∈ foot ∧ left1 (onlyB m.next true m.bl foot) m2.bl i = true) := by
      intro i b hb
      rw [delB_get] at hb
      split at hb
      · cases hb
      · rename_i hn
        exact ⟨hb, fun e => hn ((un i).2 e)⟩
    have hXO := h2.xoN (fun k hF => by
      obtain ⟨i', b', g', l1, l2, l3, l4, _⟩ := hF
      obtain ⟨g2, cs, fz, q1, q2, _⟩ := (hR true).blk i' b' l1
      have e : some g' = some g2 := l3.symm.trans (cutR_ext i' g2 q1)
      cases e
      exact ⟨cs, _, fz, l4 ▸ q2⟩)
    refine hK R2 ⟨m2.next, delB (foot.filter (left1 (onlyB m.next true m.bl foot) m2.bl)) m2.bl, m2.xs⟩ w2 u h1.toD rfl ⟨?_, h2.lt, h2.nx, ?_, h2.base, ?_, (fun i x hx => (hXO i x hx).imp fun _ h => h.imp fun _ k => ⟨k.1, k.2.1, k.2.2.1, fun e => .inl (k.2.2.2 e)⟩), h2.xi, ?_⟩ (fun i b hb => ?_) (fun i x hx => (newsX_get hx).2) h3
    · intro i j g h b c e1 e2 e3 e4 e5 e6
      exact h2.inj i j g h b c e1 e2 e3 (out e4).1 (out e5).1 e6
    · intro i b hb
      obtain ⟨e1, e2⟩ := out hb
      obtain ⟨g, cs, fz, a1, a2, a3, a4, a5⟩ := h2.blk i b e1
      refine ⟨g, cs, fz, a1, a2, a3, a4, fun hw => ?_⟩
      obtain ⟨a6, a7⟩ := a5 hw
      refine ⟨a6.imp id ?_, a7⟩
      rintro ⟨j, d, g', q1, q2, q3, q4, q5⟩
      cases hu : left1 (onlyB m.next true m.bl foot) m2.bl j with
      | false => exact ⟨j, d, g', sup j d q1 hu, q2, q3, q4, q5⟩
      | true =>
        obtain ⟨x, r1, r2, _⟩ := left1_ok hu
        have hj : R2 j = some g' := h1.1 _ _ (cutR_lt q3 (lt j d q1))
        have e : i = j := h2.inj i j g g' b x a1 hj q4.symm e1 r2 (.inl hw)
        rw [e] at e2
        exact absurd ⟨inF j d hu q1, hu⟩ e2
    · refine ⟨h2.fr.os, h2.fr.tape, h2.fr.output, h2.fr.size, fun k hk hf => ?_, h2.fr.froz⟩
      by_cases hF : ∃ i b g, getB (onlyB m.next true m.bl foot) i = some b ∧ b.wr = true ∧ R1 i = some g ∧ g.b = k ∧ X k
      · obtain ⟨j, d, g', q1, q2, q3, q4, q5⟩ := hF
        cases hu : left1 (onlyB m.next true m.bl foot) m2.bl j with
        | false => exact absurd ⟨j, d, g', sup j d q1 hu, q2, q3, q4, q5⟩ hf
        | true =>
          have := hl j d g' hu q1 q2 q3
          rw [q4] at this
          exact this
      · exact h2.fr.block k hk hF
    · intro g cs hg
      obtain ⟨a1, a2, a3⟩ := h2.gl g cs hg
      refine ⟨a1, ?_, a3⟩
      rintro ⟨j, d, g', q1, q2, q3, q4, q5⟩
      exact a2 ⟨j, d, g', (sub j d q1).2, q2, q3, q4, q5⟩
    · obtain ⟨e1, e2⟩ := collect_get hb
      show getB (delB _ _) i = some b
      rw [delB_get]
      have hn : ¬ memB (foot.filter (left1 (onlyB m.next true m.bl foot) m2.bl)) i = true := by
        intro e
        obtain ⟨q1, q2⟩ := (un i).1 e
        rcases List.mem_append.1 e1 with e1 | e1
        · rw [(chgs_mem e1).2] at q2
          cases q2
        · obtain ⟨x, r1, _, _⟩ := left1_ok q2
          have := upFrom_mem e1
          have := lt i x r1
          omega
      rw [if_neg hn]
      exact e2
  | call hw hb hcl hfn hc hsat hk1 hk2 =>
    rename_i b g l fn c v m1 wf
    have hwant := want_ok hw hT
    rw [hb] at hwant
    obtain ⟨hpf, hpn⟩ := hE.fns _ _ hfn
    obtain ⟨args, ha1, ha2⟩ := callS_ok (w := w1) hcl hT hpf hpn (by rw [hc]; rfl)
    cases wf with
    | false =>
      refine ⟨rfl, rfl, fun i x h => (newsX_get h).1, fun _ h => (nodel h).elim, fun _ _ _ _ h => nodel h, onlyB m.next false m.bl _, fun i b h1 h2 => (noW _ i b h1 h2).elim, fun i b hb hi => ?_, below _ _, fun K Q hK => ?_⟩
      · have := upFrom_mem (collect_get hb).1
        omega
      · have hans := inline_ok hE hr hfn hc ha1 (noX (hR false)) hsat
        refine wpOp_call ho hwant ha2 hans ?_
        rintro u w2 ⟨s, m2, R2, ⟨rfl, rfl⟩, h1, h2, h3⟩
        exact hK R2 _ w2 u h1.toD rfl h2 (fun i b hb => (collect_get hb).2) (fun i x hx => (newsX_get hx).2) h3
    | true =>
      generalize hfo : reach m.bl 8 _ = foot at *
      have sub : ∀ i b, getB (onlyB m.next true m.bl (chgs (onlyB m.next true m.bl foot) m1.bl foot)) i = some b → i ∈ chgs (onlyB m.next true m.bl foot) m1.bl foot ∧ getB (onlyB m.next true m.bl foot) i = some b := by
        intro i b hb
        obtain ⟨e1, c, e2, e3, rfl⟩ := onlyB_get hb
        exact ⟨e1, onlyB_some e2 e3 (chgs_mem e1).1⟩
      have sup : ∀ i b, getB (onlyB m.next true m.bl foot) i = some b → left1 (onlyB m.next true m.bl foot) m1.bl i = false → getB (onlyB m.next true m.bl (chgs (onlyB m.next true m.bl foot) m1.bl foot)) i = some b := by
        intro i b hb hl
        obtain ⟨e1, c, e2, e3, rfl⟩ := onlyB_get hb
        exact onlyB_some e2 e3 (mem_chgs e1 hl)
      have lt : ∀ i b, getB (onlyB m.next true m.bl foot) i = some b → i < m.next := by
        intro i b hb
        obtain ⟨_, c, _, e3, _⟩ := onlyB_get hb
        simp only [Bool.and_eq_true] at e3
        exact by simpa using e3.1
      simp only [if_true]
      refine ⟨by first | rfl | trivial, by first | rfl | trivial, fun i x h => (newsX_get h).1, fun _ h => (nodel h).elim, fun _ _ _ _ h => nodel h, onlyB m.next true m.bl (chgs (onlyB m.next true m.bl foot) m1.bl foot), fun i b h1 _ => .inl ?_, fun i b hb hi => ?_, fun i b hb => ?_, fun K Q hK => ?_⟩
      · obtain ⟨e1, e2⟩ := sub i b h1
        obtain ⟨c, hc⟩ := keepB_iff hk1 (chgs_mem e1).1 e2
        rw [collect_some hc (List.mem_append_left _ e1)]
        rfl
      · obtain ⟨e1, e2⟩ := collect_get hb
        rcases List.mem_append.1 e1 with e1 | e1
        · obtain ⟨y, hy, hw⟩ := sameB_iff hk2 (chgs_mem e1).1 e2
          exact ⟨y, sup i y hy (chgs_mem e1).2, hw⟩
        · have := upFrom_mem e1
          omega
      · obtain ⟨e1, e2⟩ := sub i b hb
        exact ⟨(chgs_mem e1).1, (below true foot i b e2).2⟩
      refine wpOp_call ho hwant ha2 (inline_ok hE hr hfn hc ha1 (noX (hR true)) hsat) ?_
      rintro u w2 ⟨s, m2, R2, ⟨rfl, rfl⟩, h1, h2, h3⟩
      have un : ∀ i, memB (foot.filter (left1 (onlyB m.next true m.bl foot) m2.bl)) i = true ↔ i ∈ foot ∧ left1 (onlyB m.next true m.bl foot) m2.bl i = true := by
        intro i
        rw [memB_iff, List.mem_filter]
      have inF : ∀ i x, left1 (onlyB m.next true m.bl foot) m2.bl i = true → getB (onlyB m.next true m.bl foot) i = some x → i ∈ foot := fun i x _ hx => (onlyB_get hx).1
      have hl := Rel.left (R1 := R1) (fun i g h => cutR_ext i g h) inF (hR true) h2 h1.1
      have out : ∀ {i b}, getB (delB (foot.filter (left1 (onlyB m.next true m.bl foot) m2.bl)) m2.bl) i = some b → getB m2.bl i = some b ∧ ¬ (i ∈ foot ∧ left1 (onlyB m.next true m.bl foot) m2.bl i = true) := by
        intro i b hb
        rw [delB_get] at hb
        split at hb
        · cases hb
        · rename_i hn
          exact ⟨hb, fun e => hn ((un i).2 e)⟩
      have hXO := h2.xoN (fun k hF => by
        obtain ⟨i', b', g', l1, l2, l3, l4, _⟩ := hF
        obtain ⟨g2, cs, fz, q1, q2, _⟩ := (hR true).blk i' b' l1
        have e : some g' = some g2 := l3.symm.trans (cutR_ext i' g2 q1)
        cases e
        exact ⟨cs, _, fz, l4 ▸ q2⟩)
      refine hK R2 ⟨m2.next, delB (foot.filter (left1 (onlyB m.next true m.bl foot) m2.bl)) m2.bl, m2.xs⟩ w2 u h1.toD rfl ⟨?_, h2.lt, h2.nx, ?_, h2.base, ?_, (fun i x hx => (hXO i x hx).imp fun _ h => h.imp fun _ k => ⟨k.1, k.2.1, k.2.2.1, fun e => .inl (k.2.2.2 e)⟩), h2.xi, ?_⟩ (fun i b hb => ?_) (fun i x hx => (newsX_get hx).2) h3
      · intro i j g h b c e1 e2 e3 e4 e5 e6
        exact h2.inj i j g h b c e1 e2 e3 (out e4).1 (out e5).1 e6
      · intro i b hb
        obtain ⟨e1, e2⟩ := out hb
        obtain ⟨g, cs, fz, a1, a2, a3, a4, a5⟩ := h2.blk i b e1
        refine ⟨g, cs, fz, a1, a2, a3, a4, fun hw => ?_⟩
        obtain ⟨a6, a7⟩ := a5 hw
        refine ⟨a6.imp id ?_, a7⟩
        rintro ⟨j, d, g', q1, q2, q3, q4, q5⟩
        cases hu : left1 (onlyB m.next true m.bl foot) m2.bl j with
        | false => exact ⟨j, d, g', sup j d q1 hu, q2, q3, q4, q5⟩
        | true =>
          obtain ⟨x, r1, r2, _⟩ := left1_ok hu
          have hj : R2 j = some g' := h1.1 _ _ (cutR_lt q3 (lt j d q1))
          have e : i = j := h2.inj i j g g' b x a1 hj q4.symm e1 r2 (.inl hw)
          rw [e] at e2
          exact absurd ⟨inF j d hu q1, hu⟩ e2
      · refine ⟨h2.fr.os, h2.fr.tape, h2.fr.output, h2.fr.size, fun k hk hf => ?_, h2.fr.froz⟩
        by_cases hF : ∃ i b g, getB (onlyB m.next true m.bl foot) i = some b ∧ b.wr = true ∧ R1 i = some g ∧ g.b = k ∧ X k
        · obtain ⟨j, d, g', q1, q2, q3, q4, q5⟩ := hF
          cases hu : left1 (onlyB m.next true m.bl foot) m2.bl j with
          | false => exact absurd ⟨j, d, g', sup j d q1 hu, q2, q3, q4, q5⟩ hf
          | true =>
            have := hl j d g' hu q1 q2 q3
            rw [q4] at this
            exact this
        · exact h2.fr.block k hk hF
      · intro g cs hg
        obtain ⟨a1, a2, a3⟩ := h2.gl g cs hg
        refine ⟨a1, ?_, a3⟩
        rintro ⟨j, d, g', q1, q2, q3, q4, q5⟩
        exact a2 ⟨j, d, g', (sub j d q1).2, q2, q3, q4, q5⟩
      · obtain ⟨e1, e2⟩ := collect_get hb
        show getB (delB _ _) i = some b
        rw [delB_get]
        have hn : ¬ memB (foot.filter (left1 (onlyB m.next true m.bl foot) m2.bl)) i = true := by
          intro e
          obtain ⟨q1, q2⟩ := (un i).1 e
          rcases List.mem_append.1 e1 with e1 | e1
          · rw [(chgs_mem e1).2] at q2
            cases q2
          · obtain ⟨x, r1, _, _⟩ := left1_ok q2
            have := upFrom_mem e1
            have := lt i x r1
            omega
        rw [if_neg hn]
        exact e2
  | op hw hb hx hq hk1 hk2 =>
    rename_i b q v m1
    have hwant := want_ok hw hT
    rw [hb] at hwant
    refine ⟨rfl, rfl, fun i x h => (newsX_get h).1, fun _ h => (nodel h).elim, fun _ _ _ _ h => nodel h, onlyB m.next (writesOp o.op) m.bl _, fun i b h1 h2 => ?_, fun i b hb hi => ?_, below _ _, fun K Q hK => ?_⟩
    · cases hwr : writesOp o.op with
      | true => rw [hwr] at h1 hk1; simp only [if_true]; exact .inl (keep hk1 i b (onlyB_get h1).1 h1)
      | false => rw [hwr] at h1; exact (noW _ i b h1 h2).elim
    · cases hwr : writesOp o.op with
      | true => rw [hwr] at hk2 hb; exact same hk2 i b hb hi
      | false =>
        rw [hwr] at hb
        have := upFrom_mem (collect_get hb).1
        omega
    · obtain ⟨R2, w2, u, h1, h2, h3, h4⟩ := xopW_ok hx hq hT (hR (writesOp o.op))
      refine wpOp_value ho hwant h4 (hK R2 m1 w2 u h1.toD rfl h2 (fun i b hb => (collect_get hb).2) (fun i x hx => (newsX_get hx).2) h3)
  | appE hw hb hT0 hx =>
    have hwant := want_ok hw hT
    rw [hb] at hwant
    refine ⟨rfl, rfl, fun _ _ h => (by cases h), fun _ h => (nodel h).elim, fun _ _ _ _ h => nodel h, onlyB m.next false m.bl [], fun i b h1 h2 => (noW _ i b h1 h2).elim, fun i b hb => (by cases hb), below _ _, fun K Q hK => ?_⟩
    obtain ⟨u, h3, h4⟩ := xappE_ok (w := w1) hx (hT0.ok hT)
    exact wpOp_value ho hwant h4 (hK _ ⟨m.next, onlyB m.next false m.bl [], []⟩ w1 u (ExtN.toD (ExtN.refl _ _ _)) rfl (noX (hR false)) (fun i b hb => by cases hb) (fun i x hx => by cases hx) h3)
  | app hw hb hT0 hx hq hk =>
    rename_i b q v m1 T0
    have hwant := want_ok hw hT
    rw [hb] at hwant
    have hk' : ∀ p, memB (appDst T o.op) p = true → p < m.next := fun p hp => by
      have := allB_iff.1 hk p (memB_iff.1 hp)
      simp only [Bool.and_eq_true] at this
      simpa using this.1
    have hRl : Rel w1.heap.size (fun k => ∃ i b g, getB (appLoc m.next m.bl (appFoot T o.op) (appDst T o.op)) i = some b ∧ b.wr = true ∧ R1 i = some g ∧ g.b = k ∧ X k) w1 (cutR R1 m.next)
        ⟨m.next, appLoc m.next m.bl (appFoot T o.op) (appDst T o.op), []⟩ w1 := by
      have h0 := hR true
      have up : ∀ i b, getB (appLoc m.next m.bl (appFoot T o.op) (appDst T o.op)) i = some b → ∃ c, getB (onlyB m.next true m.bl (appFoot T o.op)) i = some c ∧ b.arr = c.arr ∧ b.ty = c.ty ∧ (b.wr = true → c.wr = true) := by
        intro i b hb
        obtain ⟨h1, c, h2, h3, h4, h5, h6⟩ := appLoc_get hb
        exact ⟨_, onlyB_some h2 h3 h1, h4, h5, fun hw => by simp [(h6 hw).1]⟩
      refine ⟨fun i k g h b c h1 h2 h3 h4 h5 h6 => ?_, h0.lt, h0.nx, fun i b hb => ?_, Nat.le_refl _, BelowF.refl _ _ _, fun _ _ hx => (by cases hx), fun _ _ _ _ _ _ _ _ _ hx => (by cases hx), fun g cs hg => ?_⟩
      · obtain ⟨b', p1, _, _, p2⟩ := up i b h4
        obtain ⟨c', p3, _, _, p4⟩ := up k c h5
        exact h0.inj i k g h b' c' h1 h2 h3 p1 p3 (h6.imp p2 p4)
      · obtain ⟨c, p1, p2, p3, p4⟩ := up i b hb
        obtain ⟨g, cs, fz, k1, k2, k3, k4, k5⟩ := h0.blk i c p1
        refine ⟨g, cs, fz, k1, by rw [p3]; exact k2, k3, by rw [p2]; exact k4, fun hw => ?_⟩
        obtain ⟨k6, k7⟩ := k5 (p4 hw)
        refine ⟨?_, k7⟩
        rcases k6 with k6 | ⟨_, _, _, _, _, _, _, k8⟩
        · exact .inl k6
        · exact .inr ⟨i, b, g, hb, hw, cutR_ext _ _ k1, rfl, k8⟩
      · obtain ⟨g1, g2, g3⟩ := h0.gl g cs hg
        refine ⟨g1, ?_, g3⟩
        rintro ⟨i, b, g', q1, q2, q3, q4, q5⟩
        obtain ⟨c, p1, _, _, p4⟩ := up i b q1
        exact g2 ⟨i, c, g', p1, p4 q2, q3, q4, q5⟩
    refine ⟨rfl, rfl, fun i x h => (by cases h), fun p hp => ?_, fun _ _ _ h => (by cases h), appLoc m.next m.bl (appFoot T o.op) (appDst T o.op), fun i b h1 h2 => ?_, fun i b hb hi => ?_, fun i b hb => ?_, fun K Q hK => ?_⟩
    · cases hg : getL (collect m1.bl (upFrom (m1.next - m.next) m.next)) p with
      | none => rfl
      | some c =>
        have h1 := upFrom_mem (collect_get hg).1
        have h2 := hk' p hp
        omega
    · obtain ⟨_, c, _, _, _, _, h6⟩ := appLoc_get h1
      exact .inr (memB_iff.2 (h6 h2).2)
    · have := upFrom_mem (collect_get hb).1
      omega
    · obtain ⟨h1, c, h2, _, _, _, h6⟩ := appLoc_get hb
      exact ⟨h1, c, h2, fun hw => (h6 hw).1⟩
    · obtain ⟨R2, w2, u, h1, h2, h3, h4, h5⟩ := xapp_ok hx hq (hT0.ok hT) hRl
      refine wpOp_value ho hwant h5 (hK R2 m1 w2 u ⟨h1.1, fun i g hi => (h1.2.1 i g hi).imp (fun x => x) fun ⟨k1, k2⟩ => ⟨k1, k2.imp (fun x => x) fun ⟨p, b, k3, k4, k5, k6⟩ => ?_⟩, h1.2.2, by rw [h2]; exact Nat.le_succ _⟩ rfl h3 (fun i b hb => (collect_get hb).2) (fun i x hx => (by cases hx)) h4)
      obtain ⟨_, c, _, _, _, _, q6⟩ := appLoc_get k5
      exact ⟨p, b, k3, memB_iff.2 (q6 k6).2, k5, k6, cutR_ext _ _ k4⟩

omit hE hr in
theorem meet_of {a b : List Nat} {x : Nat} (h1 : x ∈ a) (h2 : x ∈ b) : meet a b = true := by
  unfold meet
  cases h : allB (fun x => !memB b x) a with
  | false => rfl
  | true =>
    have := allB_iff.1 h x h1
    rw [memB_iff.2 h2] at this
    cases this
omit hE hr in
theorem mem_optL {d : Option Nat} {t : Nat} (h : d = some t) : t ∈ optL d := by subst h; simp [optL]
omit hE hr in
theorem mem_dom {d : DRec} {i : Nat} {b : SBlk} (h : getL d.bl i = some b) : i ∈ d.dom := by
  unfold DRec.dom
  refine List.mem_append_left _ (List.mem_append_left _ ?_)
  generalize d.bl = l at h
  induction l with
  | nil => cases h
  | cons c l ih =>
    obtain ⟨k, c⟩ := c
    simp only [getL] at h
    split at h
    · rename_i e
      have e' : k = i := by simpa using e
      simp [e']
    · simp [ih h]
omit hE hr in
theorem mem_domX {d : DRec} {i : Nat} {b : XO} (h : getX d.xs i = some b) : i ∈ d.dom := by
  unfold DRec.dom
  refine List.mem_append_left _ (List.mem_append_right _ ?_)
  generalize d.xs = l at h
  induction l with
  | nil => cases h
  | cons c l ih =>
    simp only [getX] at h
    split at h
    · rename_i e
      have e' : c.id = i := by simpa using e
      simp [e']
    · simp [ih h]
omit hE hr in
theorem anc_closed {ops : Array Oper} {D : Nat → Bool} (hcl : ∀ j o, D j = true → ops[j]? = some o → ∀ p ∈ predsS o, D p = true) {i j : Nat} (h : Anc ops i j) : (∀ o, ops[j]? = some o → ∀ p ∈ predsS o, D p = true) → D i = true := by
  induction h with
  | one h1 h2 => exact fun hp => hp _ h1 _ h2
  | more h1 h2 _ ih => exact fun hp => ih fun o ho p hpo => hcl _ o (hp _ h1 _ h2) ho p hpo

theorem draw_ok : DrawOk E r := by
  intro id tag base ops T m n0 F w0 w R a next A B h hT hR
  unfold drawT at h
  obtain ⟨ds, T', m', h, hlen, Ts, ms, eT0, em0, eTn, emn, htr⟩ := drawG_trace (fun _ _ h => by cases h) h
  split at h
  case h_2 => exact h.elim
  rename_i hord
  refine ⟨T', _, h, fun b hb k cs => ?_⟩
  clear h
  have hn : ds.length = ops.size := by rw [hlen, Array.length_toList]
  have htr' : ∀ j d, ds[j]? = some d → ∃ o T0, ops[j]? = some o ∧ Refn (onlyT (o.looksAt ops) (ms j).next (Ts j)) T0 ∧ DoneBy E r ops o base T0 (ms j) d (ms (j + 1)).next ∧ Ts (j + 1) = dstS (Ts j) d.dst d.v ∧ (ms (j + 1)).bl = insB d.bl (delB d.del (ms j).bl) ∧ (ms j).next ≤ (ms (j + 1)).next ∧ (ms (j + 1)).xs = d.xs ++ (ms j).xs := by
    intro j d hj
    have hjl : j < ds.length := (List.getElem?_eq_some_iff.1 hj).1
    have ho : ops[j]? = some ops[j] := Array.getElem?_eq_getElem (by omega)
    obtain ⟨d', T0, h1, h2, h3, h4, h5, h6, h7⟩ := htr j ops[j] (by simp)
    rw [hj] at h1
    cases h1
    exact ⟨_, T0, ho, h2, h3, h4, h5, h6, h7⟩
  have hat : ∀ j, j < ds.length → ∃ d, ds[j]? = some d := fun j hj => ⟨_, List.getElem?_eq_getElem hj⟩
  have hmono : ∀ i, i < ds.length → (ms i).next ≤ (ms (i + 1)).next := by
    intro i hi
    obtain ⟨d, hd⟩ := hat i hi
    obtain ⟨_, _, _, _, _, _, _, h, _⟩ := htr' i d hd
    exact h
  have hTlen : ∀ j, j ≤ ds.length → (Ts j).n = T.n := by
    intro j
    induction j with
    | zero => intro _; rw [eT0]
    | succ j ih =>
      intro hj
      obtain ⟨d, hd⟩ := hat j (by omega)
      obtain ⟨_, _, _, _, _, h, _⟩ := htr' j d hd
      rw [h, ← ih (by omega)]
      cases d.dst <;> simp [dstS, Tm.set_n]
  have hTs : ∀ j, j ≤ ds.length → ∀ t, (Ts j).get t = stat T.get (recT ds T.n) (fun _ => true) j t := by
    intro j
    induction j with
    | zero => intro _ t; rw [eT0]; rfl
    | succ j ih =>
      intro hj t
      obtain ⟨d, hd⟩ := hat j (by omega)
      obtain ⟨_, _, _, _, _, h, _⟩ := htr' j d hd
      have hl := hTlen j (by omega)
      rw [h]
      simp only [stat, if_true, ← ih (by omega) t, recT, hd]
      cases hdd : d.dst with
      | none => simp [dstS]
      | some t' =>
        simp only [dstS, Tm.get_set, hl, Option.some.injEq]
        by_cases e : t = t'
        · subst e
          by_cases hlt : t < T.n
          · simp [hlt]
          · simp [hlt]
        · rw [if_neg (fun h => e h.1), if_neg (fun h => e h.1.symm)]
          rfl
  have hMs : ∀ j, j ≤ ds.length → ∀ i, getB (ms j).bl i = stat (getB m.bl) (recB ds) (fun _ => true) j i := by
    intro j
    induction j with
    | zero => intro _ t; rw [em0]; rfl
    | succ j ih =>
      intro hj i
      obtain ⟨d, hd⟩ := hat j (by omega)
      obtain ⟨_, _, _, _, _, _, h, _⟩ := htr' j d hd
      rw [h, insB_get, delB_get]
      simp only [stat, if_true, ← ih (by omega) i, recB, hd]
      cases getL d.bl i with
      | some b => rfl
      | none => by_cases hm : memB d.del i = true <;> simp [hm]
  have hXs : ∀ j, j ≤ ds.length → ∀ i, getX (ms j).xs i = stat (getX m.xs) (recX ds) (fun _ => true) j i := by
    intro j
    induction j with
    | zero => intro _ t; rw [em0]; rfl
    | succ j ih =>
      intro hj i
      obtain ⟨d, hd⟩ := hat j (by omega)
      obtain ⟨_, _, _, _, _, _, _, _, h⟩ := htr' j d hd
      rw [h, getX_append]
      simp only [stat, if_true, ← ih (by omega) i, recX, hd]
      cases getX d.xs i <;> rfl
  have hord' := orderS_ok (ops := ops) (all := ds) (l := ops.toList) (n := 0) (tab := []) rfl (Nat.zero_le _) hord rfl (fun p _ hp => by omega)
  let Q : Exit → Act → World → Prop := fun e a' w' => e = .normal ∧ ∃ D R1, (∀ i, i < ds.length → D i = true) ∧ DInv a.defers ds T m ms n0 F w0 R w base D R1 a' w'
  have step : ∀ (D : Nat → Bool) (R1 : Ren) (a1 : Act) (w1 : World) (j : Nat) (K : Act → World → Prop), (∀ i, D i = true → i < ds.length) → (∀ j o, D j = true → ops[j]? = some o → ∀ p ∈ predsS o, D p = true) → DInv a.defers ds T m ms n0 F w0 R w base D R1 a1 w1 →
      j < ds.length → D j = false → (∀ o, ops[j]? = some o → ∀ p ∈ predsS o, D p = true) →
      (∀ R3 a2 w2, DInv a.defers ds T m ms n0 F w0 R w base (fun i => i == j || D i) R3 a2 w2 → K a2 w2) → wpOp E.P ops Q j K a1 w1 := by
    intro D R1 a1 w1 j K hDl hcl inv hj hD hpr hK
    obtain ⟨d, hd⟩ := hat j hj
    obtain ⟨o, T0, ho, href, hdop, hTj, hMj, _⟩ := htr' j d hd
    obtain ⟨_, hcl1⟩ := hord' j d o (Nat.zero_le _) hd ho
    have early : ∀ i x, i < j → ds[i]? = some x → clash x d = true → D i = true := fun i x hi hx hc => anc_closed hcl (hcl1 i x hi hx hc) hpr
    have late : ∀ i x, j < i → D i = true → ds[i]? = some x → clash d x = true → False := by
      intro i x hi hDi hx hc
      obtain ⟨o', _, ho', _⟩ := htr' i x hx
      obtain ⟨_, hcl2⟩ := hord' i x o' (Nat.zero_le _) hx ho'
      have := anc_closed hcl (hcl2 j d hi hd hc) fun o2 ho2 p hp => hcl i o2 hDi ho2 p hp
      rw [hD] at this
      cases this
    have nonT : ∀ {i t}, recT ds T.n i t ≠ none → ∃ x, ds[i]? = some x ∧ x.dst = some t := by
      intro i t h
      unfold recT at h
      cases hx : ds[i]? with
      | none => rw [hx] at h; exact (h rfl).elim
      | some x =>
        rw [hx] at h
        dsimp only at h
        split at h
        · rename_i hc; exact ⟨x, rfl, hc.1⟩
        · exact (h rfl).elim
    have nonB : ∀ {i t}, recB ds i t ≠ none → ∃ x, ds[i]? = some x ∧ t ∈ x.dom := by
      intro i t h
      unfold recB at h
      cases hx : ds[i]? with
      | none => rw [hx] at h; exact (h rfl).elim
      | some x =>
        rw [hx] at h
        dsimp only at h
        cases hg : getL x.bl t with
        | none =>
          rw [hg] at h
          dsimp only at h
          split at h
          · rename_i hd; exact ⟨x, rfl, List.mem_append_right _ (memB_iff.1 hd)⟩
          · exact (h rfl).elim
        | some b => exact ⟨x, rfl, mem_dom hg⟩
    have nonX : ∀ {i t}, recX ds i t ≠ none → ∃ x, ds[i]? = some x ∧ t ∈ x.dom := by
      intro i t h
      unfold recX at h
      cases hx : ds[i]? with
      | none => rw [hx] at h; exact (h rfl).elim
      | some x =>
        rw [hx] at h
        dsimp only at h
        cases hg : getX x.xs t with
        | none => rw [hg] at h; exact (h rfl).elim
        | some b => exact ⟨x, rfl, mem_domX hg⟩
    have seeT : ∀ t, t ∈ d.looks → stat T.get (recT ds T.n) D ds.length t = (Ts j).get t := by
      intro t ht
      rw [hTs j (by omega)]
      refine stat_pre (by omega) (fun i hi hr => ?_) (fun i h1 h2 hDi => ?_)
      · obtain ⟨x, hx, hxd⟩ := nonT hr
        exact early i x hi hx (by simp [clash, meet_of (mem_optL hxd) (List.mem_append_left (optL d.dst) ht)])
      · rcases Nat.lt_or_ge j i with hlt | hge
        · refine Classical.byContradiction fun hr => ?_
          obtain ⟨x, hx, hxd⟩ := nonT hr
          exact late i x hlt hDi hx (by simp [clash, meet_of (mem_optL hxd) ht])
        · obtain rfl : i = j := by omega
          rw [hD] at hDi
          cases hDi
    have seeB : ∀ i, i ∈ d.foot → stat (getB m.bl) (recB ds) D ds.length i = getB (ms j).bl i := by
      intro t ht
      rw [hMs j (by omega)]
      refine stat_pre (by omega) (fun i hi hr => ?_) (fun i h1 h2 hDi => ?_)
      · obtain ⟨x, hx, hxd⟩ := nonB hr
        exact early i x hi hx (by simp [clash, meet_of hxd (List.mem_append_left d.dom ht)])
      · rcases Nat.lt_or_ge j i with hlt | hge
        · refine Classical.byContradiction fun hr => ?_
          obtain ⟨x, hx, hxd⟩ := nonB hr
          exact late i x hlt hDi hx (by simp [clash, meet_of hxd ht])
        · obtain rfl : i = j := by omega
          rw [hD] at hDi
          cases hDi
    have seeX : ∀ i, i ∈ d.foot → stat (getX m.xs) (recX ds) D ds.length i = getX (ms j).xs i := by
      intro t ht
      rw [hXs j (by omega)]
      refine stat_pre (by omega) (fun i hi hr => ?_) (fun i h1 h2 hDi => ?_)
      · obtain ⟨x, hx, hxd⟩ := nonX hr
        exact early i x hi hx (by simp [clash, meet_of hxd (List.mem_append_left d.dom ht)])
      · rcases Nat.lt_or_ge j i with hlt | hge
        · refine Classical.byContradiction fun hr => ?_
          obtain ⟨x, hx, hxd⟩ := nonX hr
          exact late i x hlt hDi hx (by simp [clash, meet_of hxd ht])
        · obtain rfl : i = j := by omega
          rw [hD] at hDi
          cases hDi
    have lateT : ∀ t, recT ds T.n j t ≠ none → ∀ i, j < i → i < ds.length → D i = true → recT ds T.n i t = none := by
      intro t ht i hi _ hDi
      refine Classical.byContradiction fun hr => ?_
      obtain ⟨x, hx, hxd⟩ := nonT hr
      obtain ⟨y, hy, hyd⟩ := nonT ht
      rw [hd] at hy
      cases hy
      exact late i x hi hDi hx (by simp [clash, meet_of (mem_optL hyd) (List.mem_append_right x.looks (mem_optL hxd))])
    have lateB : ∀ t, recB ds j t ≠ none → ∀ i, j < i → i < ds.length → D i = true → recB ds i t = none := by
      intro t ht i hi _ hDi
      refine Classical.byContradiction fun hr => ?_
      obtain ⟨x, hx, hxd⟩ := nonB hr
      obtain ⟨y, hy, hyd⟩ := nonB ht
      rw [hd] at hy
      cases hy
      exact late i x hi hDi hx (by simp [clash, meet_of hyd (List.mem_append_right x.foot hxd)])
    have lateX : ∀ t, recX ds j t ≠ none → ∀ i, j < i → i < ds.length → D i = true → recX ds i t = none := by
      intro t ht i hi _ hDi
      refine Classical.byContradiction fun hr => ?_
      obtain ⟨x, hx, hxd⟩ := nonX hr
      obtain ⟨y, hy, hyd⟩ := nonX ht
      rw [hd] at hy
      cases hy
      exact late i x hi hDi hx (by simp [clash, meet_of hyd (List.mem_append_right x.foot hxd)])
    have hTm : TmOk (cutR R1 (ms j).next) (onlyT d.looks (ms j).next (Ts j)) a1 := by
      refine ⟨inv.size.trans (hTlen j (by omega)).symm, fun i s hx => ?_⟩
      obtain ⟨h1, h2, h3⟩ := onlyT_get hx
      have hst := seeT i h1
      rw [h2] at hst
      obtain ⟨v, k1, k2⟩ := inv.tm i _ hst
      exact ⟨v, k1, SV.cut h3 k2⟩
    have hlocs : ∀ wr i b, getB (onlyB (ms j).next wr (ms j).bl d.foot) i = some b → ∃ c, stat (getB m.bl) (recB ds) D ds.length i = some c ∧ (b.wr = true → c.wr = true) := by
      intro wr i b hb
      obtain ⟨h1, c, h2, _, rfl⟩ := onlyB_get hb
      refine ⟨c, by rw [seeB i h1]; exact h2, fun hw => ?_⟩
      simp only [Bool.and_eq_true] at hw
      exact hw.1
    have hRl : ∀ wr, Rel w1.heap.size (fun k => ∃ i b g, getB (onlyB (ms j).next wr (ms j).bl d.foot) i = some b ∧ b.wr = true ∧ R1 i = some g ∧ g.b = k ∧ (n0 ≤ k ∨ F k)) w1 (cutR R1 (ms j).next) ⟨(ms j).next, onlyB (ms j).next wr (ms j).bl d.foot, onlyX (ms j).xs (ms j).next d.foot⟩ w1 := by
      intro wr
      refine ⟨fun i k g h b c h1 h2 h3 h4 h5 h6 => ?_, fun i g h => inv.lt i g (cutR_ext _ _ h), fun i g h => ?_, fun i b hb => ?_, Nat.le_refl _, BelowF.refl _ _ _, fun i x hx => ?_, fun i k g h x y hi hk hg hx hy => ?_, fun g cs hg => ?_⟩
      rotate_left 3
      · obtain ⟨p1, p2, y, rfl, p3, p4, p5⟩ := onlyX_get hx
        have hst := seeX i p1
        rw [p5] at hst
        obtain ⟨g, o, k1, k2, k3, k4⟩ := inv.xo i _ hst
        obtain ⟨r1, r2⟩ := XO.roD_ok p3 p4 k3
        exact ⟨g, o, cutR_lt k1 p2, k2, r1, fun h => by rw [r2] at h; cases h⟩
      · obtain ⟨p1, p2, y1, _, _, _, p5⟩ := onlyX_get hx
        obtain ⟨q1, q2, y2, _, _, _, q5⟩ := onlyX_get hy
        have s1 := seeX i p1
        have s2 := seeX k q1
        rw [p5] at s1
        rw [q5] at s2
        exact inv.xi i k g h _ _ (cutR_ext _ _ hi) (cutR_ext _ _ hk) hg s1 s2
      · obtain ⟨g1, g2, cs', ty, fz, g3, g4⟩ := hR.gl g cs hg
        refine ⟨Nat.lt_of_lt_of_le g1 inv.base, ?_, cs', ty, fz, (inv.fr.block g g1 g2).trans g3, g4⟩
        rintro ⟨_, _, _, _, _, _, _, h | h⟩
        · omega
        · exact g2 h
      · obtain ⟨b', k1, k2⟩ := hlocs wr i b h4
        obtain ⟨c', k3, k4⟩ := hlocs wr k c h5
        exact inv.inj i k g h b' c' (cutR_ext _ _ h1) (cutR_ext _ _ h2) h3 k1 k3 (h6.imp k2 k4)
      · unfold cutR at h
        split at h
        · assumption
        · cases h
      · have hb' := hb
        obtain ⟨h1, c, h2, h3, rfl⟩ := onlyB_get hb
        have hst := seeB i h1
        rw [h2] at hst
        obtain ⟨g, cs, fz, k1, k2, ks, k3, k4⟩ := inv.blk i c hst
        simp only [Bool.and_eq_true] at h3
        have hci : i < (ms j).next := by simpa using h3.1
        refine ⟨g, cs, fz, cutR_lt k1 hci, k2, ks, SA.cutM h3.2 k3, fun hw => ?_⟩
        simp only [Bool.and_eq_true] at hw
        obtain ⟨k5, k6⟩ := k4 hw.1
        exact ⟨.inr ⟨i, _, g, hb', by simp [hw], k1, rfl, k5⟩, k6⟩
    obtain ⟨_, _, hxl, hdel, hdx, loc, hloc, hsame, hbelow, hgo⟩ := dop_ok hE hr hdop ho (href _ _ (by rw [← hdop.looks]; exact hTm)) hRl
    have hlocs' : ∀ i b, getB loc i = some b → ∃ c, stat (getB m.bl) (recB ds) D ds.length i = some c ∧ (b.wr = true → c.wr = true) := by
      intro i b hb
      obtain ⟨h1, c, h2, h3⟩ := hbelow i b hb
      exact ⟨c, by rw [seeB i h1]; exact h2, h3⟩
    exact hgo K Q fun R2 m1 w2 u h1 h2 h3 h4 h4x h5 =>
      let ⟨R3, h6⟩ := inv.after hd hD (by rw [em0]) hmono lateT lateB lateX hxl hR.nx hdel hdx hloc hlocs' hsame h1 h2 h3 h4 h4x h5
      hK R3 _ _ h6
  have getD2 : ∀ (listed : Array Bool) (i : Nat), i < listed.size → listed.getD i true = listed.getD i false := by
    intro listed i hi
    simp [Array.getD, hi]
  have none : ∀ (listed : Array Bool), listed.size = ops.size → Region.ready .any ops listed = [] → ∀ i, i < ops.size → listed.getD i false = true := by
    intro listed hsz hrd i
    induction i using Nat.strongRecOn with
    | ind i ih =>
      intro hi
      refine Classical.byContradiction fun hf => ?_
      have ho : ops[i]? = some ops[i] := Array.getElem?_eq_getElem hi
      obtain ⟨d, hd⟩ := hat i (by omega)
      obtain ⟨hedge, _⟩ := hord' i d ops[i] (Nat.zero_le _) hd ho
      have hmem : i ∈ Region.ready .any ops listed := by
        unfold Region.ready
        refine List.mem_filter.2 ⟨List.mem_range.2 hi, ?_⟩
        rw [getD2 listed i (by omega), ho]
        have hf' : listed.getD i false = false := by simpa using hf
        rw [hf']
        simp only [Bool.not_false, Bool.true_and, Option.map_some, Option.getD_some, Array.all_eq_true, Bool.or_eq_true]
        intro k hk
        have he := hedge ops[i].after[k] (Array.getElem_mem_toList hk)
        cases hb : Region.binds .any ops[i].after[k] with
        | false => exact .inl rfl
        | true => exact .inr (ih _ (he hb) (by have := he hb; omega))
      rw [hrd] at hmem
      cases hmem
  have all : ∀ (fuel : Nat) (listed : Array Bool) (R1 : Ren) (a1 : Act) (w1 : World), listed.size = ops.size → (∀ j o, listed.getD j false = true → ops[j]? = some o → ∀ p ∈ predsS o, listed.getD p false = true) →
      ((List.range ops.size).filter fun i => !listed.getD i false).length ≤ fuel → DInv a.defers ds T m ms n0 F w0 R w base (fun i => listed.getD i false) R1 a1 w1 → wpAny E.P .any ops Q fuel listed a1 w1 := by
    intro fuel
    induction fuel with
    | zero =>
      intro listed R1 a1 w1 hsz hcl hc inv
      have hl : ∀ i, i < ops.size → listed.getD i false = true := by
        intro i hi
        refine Classical.byContradiction fun hf => ?_
        have : i ∈ (List.range ops.size).filter fun i => !listed.getD i false := List.mem_filter.2 ⟨List.mem_range.2 hi, by simpa using hf⟩
        rw [List.eq_nil_of_length_eq_zero (Nat.le_zero.1 hc)] at this
        cases this
      refine ⟨?_, rfl, _, R1, fun i hi => hl i (by omega), inv⟩
      refine List.filter_eq_nil_iff.2 fun i hi => ?_
      rw [getD2 listed i (by rw [hsz]; exact List.mem_range.1 hi), hl i (List.mem_range.1 hi)]
      simp
    | succ fuel ih =>
      intro listed R1 a1 w1 hsz hcl hc inv
      refine ⟨fun hrd => ⟨rfl, _, R1, fun i hi => none listed hsz hrd i (by omega), inv⟩, fun j hj => ?_⟩
      unfold Region.ready at hj
      obtain ⟨hj1, hj2⟩ := List.mem_filter.1 hj
      have hjl : j < ops.size := List.mem_range.1 hj1
      rw [getD2 listed j (by omega)] at hj2
      simp only [Bool.and_eq_true] at hj2
      have hDj : listed.getD j false = false := by simpa using hj2.1
      have hpr : ∀ o, ops[j]? = some o → ∀ p ∈ predsS o, listed.getD p false = true := by
        intro o ho p hp
        have h2 := hj2.2
        rw [ho] at h2
        simp only [Option.map_some, Option.getD_some, Array.all_eq_true, Bool.or_eq_true] at h2
        unfold predsS at hp
        obtain ⟨e, he, rfl⟩ := List.mem_map.1 hp
        obtain ⟨he1, he2⟩ := List.mem_filter.1 he
        obtain ⟨k, hk, hke⟩ := List.getElem_of_mem he1
        have hk' : k < o.after.size := by simpa using hk
        have := h2 k hk'
        have hke' : o.after[k] = e := by rw [← hke]; simp
        rw [hke', he2] at this
        simpa using this
      have upd : ∀ i, (listed.setIfInBounds j true).getD i false = (i == j || listed.getD i false) := by
        intro i
        by_cases e : i = j
        · subst e
          simp [Array.getD_eq_getD_getElem?, Array.getElem?_setIfInBounds_self_of_lt (show i < listed.size by omega)]
        · simp [Array.getD_eq_getD_getElem?, Array.getElem?_setIfInBounds_ne (Ne.symm e), e]
      refine step (fun i => listed.getD i false) R1 a1 w1 j _ (fun i hi => ?_) hcl inv (by omega) hDj hpr fun R3 a2 w2 inv2 => ?_
      · rcases Nat.lt_or_ge i listed.size with h | h
        · omega
        · simp [Array.getD, Nat.not_lt.2 h] at hi
      · refine ih (listed.setIfInBounds j true) R3 a2 w2 (by simpa using hsz) ?_ ?_ (by simpa only [upd] using inv2)
        · intro i o hi ho p hp
          rw [upd] at hi ⊢
          simp only [Bool.or_eq_true, beq_iff_eq] at hi ⊢
          rcases hi with rfl | hi
          · exact .inr (hpr o ho p hp)
          · exact .inr (hcl i o hi ho p hp)
        · have hlt : ((List.range ops.size).filter fun i => !(listed.setIfInBounds j true).getD i false).length < ((List.range ops.size).filter fun i => !listed.getD i false).length := by
            have e : ((List.range ops.size).filter fun i => !(listed.setIfInBounds j true).getD i false) = ((List.range ops.size).filter fun i => !listed.getD i false).filter fun i => !(i == j) := by
              rw [List.filter_filter]
              refine List.filter_congr fun i _ => ?_
              rw [upd]
              cases (i == j) <;> simp
            rw [e]
            refine List.length_filter_lt_length_iff_exists.2 ⟨j, List.mem_filter.2 ⟨hj1, by rw [hDj]; rfl⟩, by simp⟩
          omega
  have start : DInv a.defers ds T m ms n0 F w0 R w base (fun i => (Array.replicate ops.size false).getD i false) R a { w with drawn := w.drawn + 1 } := by
    have hnone : ∀ i, (Array.replicate ops.size false).getD i false = false := by
      intro i
      simp only [Array.getD_eq_getD_getElem?, Array.getElem?_replicate]
      split <;> rfl
    have e0 : ∀ {K V : Type} {init : K → V} {rec : Nat → K → Option V} (k : K), stat init rec (fun i => (Array.replicate ops.size false).getD i false) ds.length k = init k := by
      intro K V init rec k
      exact stat_none (Nat.zero_le _) fun i _ _ hi => by rw [hnone] at hi; cases hi
    refine ⟨rfl, hT.1, Ext.refl R, fun i g h => .inl h, Nat.le_refl _, ?_, ?_, hR.lt, fun i g h => .inl (hR.nx i g h), ?_, hR.base, ⟨hR.fr.os, hR.fr.tape, hR.fr.output, hR.fr.size, hR.fr.block, hR.fr.froz⟩, ?_, ?_⟩
    · intro t x ht
      rw [e0] at ht
      exact hT.2 t x ht
    · intro i j g h b c h1 h2 h3 h4 h5
      rw [e0] at h4 h5
      exact hR.inj i j g h b c h1 h2 h3 h4 h5
    · intro i b hb
      rw [e0] at hb
      exact hR.blk i b hb
    · intro i x hx
      rw [e0] at hx
      exact hR.xo i x hx
    · intro i j g h x y h1 h2 h3 h4 h5
      rw [e0] at h4 h5
      exact hR.xi i j g h x y h1 h2 h3 h4 h5
  have hwp := all ops.size _ R a _ (by simp) (fun j o hj => by
      have : (Array.replicate ops.size false).getD j false = false := by
        simp only [Array.getD_eq_getD_getElem?, Array.getElem?_replicate]
        split <;> rfl
      rw [this] at hj
      cases hj) (by
      refine Nat.le_trans (List.length_filter_le _ _) ?_
      simp) start
  have hops : wpOps E.P ops Q (Region.schedule (E.P.follows .mixedOrders) ops (w.tape w.drawn (.order b.fn id))) a { w with drawn := w.drawn + 1 } := by
    simp only [Region.schedule, hE.mixed, Bool.true_or, if_true]
    exact wpAny_sound ops.size _ _ a _ hwp
  obtain ⟨a', w', ⟨_, D, R1, hD, inv⟩, hst⟩ := ops_steps (fun _ _ _ h => h.1) b (hb.imp (fun h => h) noDefer_ok) k cs _ _ _ hops
  have harr : Steps E.P (lone (b.atR a (.code (.region id ops true) :: k)) cs w) (lone (b.atR a' k) cs w') := .head stepR_region_draw hst
  have eT : ∀ t, stat T.get (recT ds T.n) D ds.length t = T'.get t := by
    intro t
    rw [← eTn, ← hlen, hTs _ (Nat.le_refl _)]
    exact stat_same fun i hi _ => hD i hi
  have eB : ∀ i, stat (getB m.bl) (recB ds) D ds.length i = getB m'.bl i := by
    intro i
    rw [← emn, ← hlen, hMs _ (Nat.le_refl _)]
    exact stat_same fun j hj _ => hD j hj
  have eX : ∀ i, stat (getX m.xs) (recX ds) D ds.length i = getX m'.xs i := by
    intro i
    rw [← emn, ← hlen, hXs _ (Nat.le_refl _)]
    exact stat_same fun j hj _ => hD j hj
  have hmono' : ∀ i k, i ≤ k → k ≤ ds.length → (ms i).next ≤ (ms k).next := by
    intro i k hik
    induction k with
    | zero =>
      intro _
      obtain rfl : i = 0 := (by omega)
      exact Nat.le_refl _
    | succ k ih =>
      intro hk
      by_cases e : i = k + 1
      · rw [e]; exact Nat.le_refl _
      · exact Nat.le_trans (ih (by omega) (by omega)) (hmono k (by omega))
  have hnext : m.next ≤ m'.next := by
    rw [← em0, ← emn, ← hlen]
    exact hmono' 0 _ (by omega) (Nat.le_refl _)
  refine ⟨a', w', R1, ⟨⟨inv.ext, inv.new, inv.grows⟩, hnext⟩, ?_, inv.defers, ?_, harr⟩
  · have e : T'.n = T.n := by rw [← eTn, ← hlen]; exact hTlen _ (Nat.le_refl _)
    refine ⟨inv.size.trans e.symm, fun i s hx => ?_⟩
    rw [← eT] at hx
    exact inv.tm i s hx
  · have hRel : Rel n0 F w0 R1 ⟨m'.next, m'.bl, m'.xs⟩ w' := by
      refine ⟨fun i j g h b c h1 h2 h3 h4 h5 => inv.inj i j g h b c h1 h2 h3 (by rw [eB]; exact h4) (by rw [eB]; exact h5), inv.lt, fun i g h => ?_, fun i b hb => ?_, inv.base, inv.fr, fun i x hx => inv.xo i x (by rw [eX]; exact hx), fun i j g h x y h1 h2 h3 h4 h5 => inv.xi i j g h x y h1 h2 h3 (by rw [eX]; exact h4) (by rw [eX]; exact h5), hR.gl⟩
      · show i < m'.next
        rcases inv.dom i g h with h | ⟨k, hk, _, _, h5⟩
        · omega
        · have := hmono' (k + 1) ds.length (by omega) (Nat.le_refl _)
          rw [hlen, emn] at this
          omega
      · have hb : getB m'.bl i = some b := hb
        rw [← eB] at hb
        exact inv.blk i b hb
    exact hRel
end
end Go.Proofs.YtjjeahnbppmigaaDoor
