/- A region that draws its order: the proof's end; what is run is so. No condition. -/
import Derived.Test.YtahfhgdafobfmaaDoorK10
namespace Go.Proofs.YtahfhgdafobfmaaDoor

section
variable (dfs : List Deferred) (ds : List DRec) (T : Tm) (m : SMem) (ms : Nat → SMem) (n0 : Nat) (F : Nat → Prop) (w0 : World) (R : Ren) (w : World)
def recT (len : Nat) (i t : Nat) : Option (Option (Option SV)) := match ds[i]? with
  | some d => if d.dst = some t ∧ t < len then some (some (some d.v)) else none
  | none => none
def recB (i id : Nat) : Option (Option SBlk) := match ds[i]? with
  | some d => (getB d.bl id).map some
  | none => none
/-- What holds when some of the operations are done. -/
structure DInv (D : Nat → Bool) (R1 : Ren) (a : Act) (w1 : World) : Prop where
  defers : a.defers = dfs
  size : a.tmps.size = T.length
  ext : Ext R R1
  new : ∀ i g, R1 i = some g → R i = some g ∨ (w.heap.size ≤ g.b ∧ m.next ≤ i)
  grows : w.heap.size ≤ w1.heap.size
  tm : ∀ t x, stat (nth T) (recT ds T.length) D ds.length t = some x → ∃ v, a.tmps[t]? = some v ∧ TOk R1 x v
  inj : ∀ i j g h b c, R1 i = some g → R1 j = some h → g.b = h.b → stat (getB m.bl) (recB ds) D ds.length i = some b → stat (getB m.bl) (recB ds) D ds.length j = some c → b.wr = true ∨ c.wr = true → i = j
  lt : ∀ i g, R1 i = some g → g.b < w1.heap.size
  dom : ∀ i g, R1 i = some g → i < m.next ∨ ∃ k, k < ds.length ∧ D k = true ∧ (ms k).next ≤ i ∧ i < (ms (k + 1)).next
  blk : ∀ i b, stat (getB m.bl) (recB ds) D ds.length i = some b → ∃ g cs fz, R1 i = some g ∧ w1.heap[g.b]? = some (.cells cs b.ty fz) ∧ cs.size = g.n ∧ b.arr.okM R1 cs ∧ (b.wr = true → (n0 ≤ g.b ∨ F g.b) ∧ fz = (0, 0))
  base : n0 ≤ w1.heap.size
  fr : BelowF n0 F w0 w1
  xo : ∀ i x, getX m.xs i = some x → ∃ g o, R1 i = some g ∧ w1.heap[g.b]? = some o ∧ x.ok R1 o ∧ n0 ≤ g.b
end

section
variable {dfs : List Deferred} {ds : List DRec} {T : Tm} {m : SMem} {ms : Nat → SMem} {n0 : Nat} {F : Nat → Prop} {w0 : World} {R : Ren} {w : World} {D : Nat → Bool} {R1 : Ren} {a : Act} {w1 : World}
/-- One operation more, by what it did where it looked. -/
theorem DInv.after (inv : DInv dfs ds T m ms n0 F w0 R w D R1 a w1) {j : Nat} {d : DRec} (hj : ds[j]? = some d) (hD : D j = false)
    (hms0 : (ms 0).next = m.next) (hmono : ∀ i, i < ds.length → (ms i).next ≤ (ms (i + 1)).next)
    (hT : ∀ t, recT ds T.length j t ≠ none → ∀ i, j < i → i < ds.length → D i = true → recT ds T.length i t = none)
    (hB : ∀ id, recB ds j id ≠ none → ∀ i, j < i → i < ds.length → D i = true → recB ds i id = none)
    {loc : List SBlk} (hloc : ∀ i b, getB loc i = some b → b.wr = true → (getB d.bl i).isSome = true) (hlocs : ∀ i b, getB loc i = some b → ∃ c, stat (getB m.bl) (recB ds) D ds.length i = some c ∧ (b.wr = true → c.wr = true))
    (hsame : ∀ i b, getB d.bl i = some b → i < (ms j).next → ∃ c, getB loc i = some c ∧ c.wr = b.wr)
    {R2 : Ren} {m1 : SMem} {w2 : World} {u : Value} (hx : ExtN w1 w2 (ms j).next m1.next (cutR R1 (ms j).next) R2) (hn1 : m1.next = (ms (j + 1)).next)
    (hR : Rel w1.heap.size (fun k => ∃ i b g, getB loc i = some b ∧ b.wr = true ∧ R1 i = some g ∧ g.b = k ∧ (n0 ≤ k ∨ F k)) w1 R2 m1 w2) (hbl : ∀ i b, getB d.bl i = some b → getB m1.bl i = some b) (hu : d.v.ok R2 u) :
    ∃ R3, DInv dfs ds T m ms n0 F w0 R w (fun i => i == j || D i) R3 (a.put d.dst u) w2 := by
  have hjl : j < ds.length := (List.getElem?_eq_some_iff.1 hj).1
  have mono : ∀ i k, i ≤ k → k ≤ ds.length → (ms i).next ≤ (ms k).next := by
    intro i k hik
    induction k with
    | zero =>
      intro _
      obtain rfl : i = 0 := (by omega)
      exact Nat.le_refl _
    | succ k ih =>
      intro hk
      by_cases e : i = k + 1
      · rw [e]; exact Nat.le_refl _
      · exact Nat.le_trans (ih (by omega) (by omega)) (hmono k (by omega))
  have hold : ∀ i g, R1 i = some g → ¬ ((ms j).next ≤ i ∧ i < (ms (j + 1)).next) := by
    rintro i g hi ⟨h1, h2⟩
    rcases inv.dom i g hi with h | ⟨k, hk, hDk, h3, h4⟩
    · have := mono 0 j (by omega) (by omega)
      omega
    · have hne : k ≠ j := by rintro rfl; rw [hD] at hDk; cases hDk
      rcases Nat.lt_or_ge k j with hlt | hge
      · have := mono (k + 1) j (by omega) (by omega); omega
      · have := mono (j + 1) k (by omega) (by omega); omega
  have hnew : ∀ i g, R2 i = some g → (R1 i = some g ∧ i < (ms j).next) ∨ (w1.heap.size ≤ g.b ∧ (ms j).next ≤ i ∧ i < (ms (j + 1)).next) := by
    intro i g hi
    have hlt := hR.nx i g hi
    rw [hn1] at hlt
    rcases hx.2.1 i g hi with h | ⟨h1, h2⟩
    · unfold cutR at h
      split at h
      · rename_i hlt'; exact .inl ⟨h, hlt'⟩
      · cases h
    · exact .inr ⟨h1, h2, hlt⟩
  let R3 : Ren := fun i => if (ms j).next ≤ i ∧ i < (ms (j + 1)).next then R2 i else R1 i
  have e1 : Ext R1 R3 := by
    intro i g hi
    show (if _ then _ else _) = _
    rw [if_neg (hold i g hi)]
    exact hi
  have e2 : Ext R2 R3 := by
    intro i g hi
    show (if _ then _ else _) = _
    rcases hnew i g hi with ⟨h1, h2⟩ | ⟨_, h2, h3⟩
    · rw [if_neg (by omega)]; exact h1
    · rw [if_pos ⟨h2, h3⟩]; exact hi
  have hcase : ∀ i g, R3 i = some g → R1 i = some g ∨ (R2 i = some g ∧ w1.heap.size ≤ g.b ∧ (ms j).next ≤ i ∧ i < (ms (j + 1)).next) := by
    intro i g hi
    replace hi : (if (ms j).next ≤ i ∧ i < (ms (j + 1)).next then R2 i else R1 i) = some g := hi
    split at hi
    · rename_i hr
      rcases hnew i g hi with ⟨_, h2⟩ | ⟨h1, _⟩
      · omega
      · exact .inr ⟨hi, h1, hr⟩
    · exact .inl hi
  have hm0 : m.next ≤ (ms j).next := hms0 ▸ mono 0 j (by omega) (by omega)
  refine ⟨R3, ?_, ?_, inv.ext.trans e1, ?_, ?_, ?_, ?_, ?_, ?_, ?_, ?_, ?_, ?_⟩
  · rw [dst_defers]; exact inv.defers
  · rw [← inv.size]
    cases d.dst <;> simp [Act.put]
  · intro i g hi
    rcases hcase i g hi with h | ⟨_, h2, h3, _⟩
    · exact inv.new i g h
    · exact .inr ⟨Nat.le_trans inv.grows h2, by omega⟩
  · exact Nat.le_trans inv.grows hx.2.2.1
  · intro t x ht
    rw [stat_put hjl hD (hT t)] at ht
    unfold recT at ht
    rw [hj] at ht
    dsimp only at ht
    by_cases hc : d.dst = some t ∧ t < T.length
    · rw [if_pos hc, Option.getD_some] at ht
      cases ht
      refine ⟨u, ?_, SV.mono e2 hu⟩
      rw [hc.1]
      simp only [Act.put]
      rw [Array.getElem?_setIfInBounds_self_of_lt (by rw [inv.size]; exact hc.2)]
    · rw [if_neg hc, Option.getD_none] at ht
      obtain ⟨v, h1, h2⟩ := inv.tm t x ht
      refine ⟨v, ?_, TOk.mono e1 h2⟩
      cases hd : d.dst with
      | none => exact h1
      | some t' =>
        have hne : t' ≠ t := by
          rintro rfl
          have hlt : t' < a.tmps.size := (Array.getElem?_eq_some_iff.1 h1).1
          exact hc ⟨hd, inv.size ▸ hlt⟩
        simp only [Act.put]
        rw [Array.getElem?_setIfInBounds_ne hne]
        exact h1
  · intro i k g h b c hi hk hgh hb hc hw
    have see : ∀ i b, stat (getB m.bl) (recB ds) (fun i => i == j || D i) ds.length i = some b → (∃ c, getB d.bl i = some c ∧ c = b) ∨ (getB d.bl i = none ∧ stat (getB m.bl) (recB ds) D ds.length i = some b) := by
      intro i b hb
      rw [stat_put hjl hD (hB i)] at hb
      unfold recB at hb
      rw [hj] at hb
      dsimp only at hb
      cases hg : getB d.bl i with
      | some c =>
        rw [hg] at hb
        simp only [Option.map_some, Option.getD_some, Option.some.injEq] at hb
        exact .inl ⟨c, rfl, hb⟩
      | none =>
        rw [hg] at hb
        simp only [Option.map_none, Option.getD_none] at hb
        exact .inr ⟨rfl, hb⟩
    have old : ∀ i b g, stat (getB m.bl) (recB ds) (fun i => i == j || D i) ds.length i = some b → R1 i = some g → ∃ b', stat (getB m.bl) (recB ds) D ds.length i = some b' ∧ (b.wr = true → b'.wr = true) := by
      intro i b g hb hg
      rcases see i b hb with ⟨c, h1, rfl⟩ | ⟨_, h2⟩
      · have hlt : i < (ms j).next := by
          have h2 := hold i g hg
          have h3 := hR.blk i c (hbl i c h1)
          obtain ⟨g', _, _, k1, _⟩ := h3
          have := hR.nx i g' k1
          rw [hn1] at this
          omega
        obtain ⟨c', k1, k2⟩ := hsame i c h1 hlt
        obtain ⟨c2, k3, k4⟩ := hlocs i c' k1
        exact ⟨c2, k3, fun hw => k4 (by rw [k2]; exact hw)⟩
      · exact ⟨b, h2, id⟩
    have new : ∀ i b g, stat (getB m.bl) (recB ds) (fun i => i == j || D i) ds.length i = some b → R2 i = some g → (ms j).next ≤ i → i < (ms (j + 1)).next → getB m1.bl i = some b := by
      intro i b g hb hg h1 h2
      rcases see i b hb with ⟨c, h1, rfl⟩ | ⟨_, h3⟩
      · exact hbl i c h1
      · obtain ⟨g', _, _, k1, _⟩ := inv.blk i b h3
        exact (hold i g' k1 ⟨h1, h2⟩).elim
    rcases hcase i g hi with h1 | ⟨h1, h2, h3, h4⟩ <;> rcases hcase k h hk with k1 | ⟨k1, k2, k3, k4⟩
    · obtain ⟨b', e1, e2⟩ := old i b g hb h1
      obtain ⟨c', e3, e4⟩ := old k c h hc k1
      exact inv.inj i k g h b' c' h1 k1 hgh e1 e3 (hw.imp e2 e4)
    · have := inv.lt i g h1; omega
    · have := inv.lt k h k1; omega
    · exact hR.inj i k g h b c h1 k1 hgh (new i b g hb h1 h3 h4) (new k c h hc k1 k3 k4) hw
  · intro i g hi
    rcases hcase i g hi with h1 | ⟨h1, _⟩
    · exact Nat.lt_of_lt_of_le (inv.lt i g h1) hx.2.2.1
    · exact hR.lt i g h1
  · intro i g hi
    rcases hcase i g hi with h1 | ⟨_, _, h3, h4⟩
    · rcases inv.dom i g h1 with h | ⟨k, hk, hDk, h5⟩
      · exact .inl h
      · exact .inr ⟨k, hk, by simp [hDk], h5⟩
    · exact .inr ⟨j, hjl, by simp, h3, h4⟩
  · intro i b hb
    rw [stat_put hjl hD (hB i)] at hb
    unfold recB at hb
    rw [hj] at hb
    dsimp only at hb
    cases hg : getB d.bl i with
    | some c =>
      rw [hg] at hb
      simp only [Option.map_some, Option.getD_some, Option.some.injEq] at hb
      subst hb
      obtain ⟨g, cs, fz, h1, h2, hs, h3, h4⟩ := hR.blk i c (hbl i c hg)
      refine ⟨g, cs, fz, e2 _ _ h1, h2, hs, SA.monoM e2 h3, fun hw => ?_⟩
      obtain ⟨h5, h6⟩ := h4 hw
      refine ⟨?_, h6⟩
      rcases h5 with h5 | ⟨_, _, _, _, _, _, _, h5⟩
      · exact .inl (Nat.le_trans inv.base h5)
      · exact h5
    | none =>
      rw [hg] at hb
      simp only [Option.map_none, Option.getD_none] at hb
      obtain ⟨g, cs, fz, h1, h2, hs, h3, h4⟩ := inv.blk i b hb
      refine ⟨g, cs, fz, e1 _ _ h1, ?_, hs, SA.monoM e1 h3, h4⟩
      rw [← h2]
      refine hR.fr.block g.b (inv.lt _ _ h1) ?_
      rintro ⟨i', b', g', k1, k2, k3, k4, _⟩
      obtain ⟨c', k5, k6⟩ := hlocs i' b' k1
      obtain rfl : i' = i := inv.inj _ _ _ _ _ _ k3 h1 k4 k5 hb (.inl (k6 k2))
      have := hloc i' b' k1 k2
      rw [hg] at this
      cases this
  · exact Nat.le_trans inv.base hx.2.2.1
  · refine inv.fr.trans ⟨hR.fr.os, hR.fr.tape, hR.fr.output, hR.fr.size, fun k hk hf => hR.fr.block k (by have := inv.base; omega) ?_⟩
    rintro ⟨_, _, _, _, _, _, _, h | h⟩
    · omega
    · exact hf h
  · intro i x hx'
    obtain ⟨g, o, k1, k2, k3, k4⟩ := inv.xo i x hx'
    refine ⟨g, o, e1 _ _ k1, ?_, XO.mono e1 k3, k4⟩
    rw [← k2]
    refine hR.fr.block g.b (inv.lt _ _ k1) ?_
    rintro ⟨i', b', g', l1, l2, l3, l4, _⟩
    obtain ⟨c', l5, l6⟩ := hlocs i' b' l1
    obtain ⟨g2, cs, fz, q1, q2, _⟩ := inv.blk i' c' l5
    have e : some g' = some g2 := l3.symm.trans q1
    cases e
    rw [l4, k2] at q2
    cases q2
    exact XO.not_cells k3 rfl
end

theorem wpOp_value {P : Program} {ops : Array Oper} {Q : Exit → Act → World → Prop} {j : Nat} {o : Oper} {K : Act → World → Prop} {a : Act} {w w' : World} {v : Value} (ho : ops[j]? = some o) (hw : Region.wanted o (yielded ops a.tmps) = true)
    (h : Ends P a o w w' v) (hK : K (a.put o.dst v) w') : wpOp P ops Q j K a w := by
  unfold wpOp
  simp only [ho, hw, if_true]
  refine .inl ?_
  unfold Oper.wp
  rcases h with h | ⟨h, rfl⟩ <;> rw [h] <;> exact hK
theorem wpOp_call {P : Program} {ops : Array Oper} {Q : Exit → Act → World → Prop} {j : Nat} {o : Oper} {K : Act → World → Prop} {a : Act} {w w' : World} {g : FuncId} {args : Array Value} {Φ : Value → World → Prop} (ho : ops[j]? = some o)
    (hw : Region.wanted o (yielded ops a.tmps) = true) (h : (execOp a.eval o).run P w = .ok (.enter g args) w') (hc : Answers P g args w' Φ) (hK : ∀ v w2, Φ v w2 → K (a.put o.dst v) w2) : wpOp P ops Q j K a w := by
  unfold wpOp
  simp only [ho, hw, if_true]
  refine .inl ?_
  unfold Oper.wp
  rw [h]
  refine Calls.mono hc ?_
  rintro e w2 ⟨v, rfl, hv⟩
  exact hK v w2 hv

section
variable {E : Env} (hE : EnvOk E) {r : Nat → List SFr → SMem → Tree} (hr : RunOk E r)
include hE hr
theorem dop_ok {ops : Array Oper} {o : Oper} {j : Nat} {T : Tm} {m : SMem} {d : DRec} {n1 : Nat} (h : DoneBy E r ops o T m d n1) (ho : ops[j]? = some o) {R1 : Ren} {a : Act} {w1 : World} {X : Nat → Prop}
    (hT : TmOk (cutR R1 m.next) (onlyT d.looks m.next 0 T) a)
    (hR : ∀ wr, Rel w1.heap.size (fun k => ∃ i b g, getB (onlyB d.foot m.next wr m.bl []) i = some b ∧ b.wr = true ∧ R1 i = some g ∧ g.b = k ∧ X k) w1 (cutR R1 m.next) ⟨m.next, onlyB d.foot m.next wr m.bl [], []⟩ w1) :
    d.dst = o.dst ∧ d.looks = o.looksAt ops ∧ ∃ wr, (∀ i b, getB (onlyB d.foot m.next wr m.bl []) i = some b → b.wr = true → (getB d.bl i).isSome = true) ∧
      (∀ i b, getB d.bl i = some b → i < m.next → ∃ c, getB (onlyB d.foot m.next wr m.bl []) i = some c ∧ c.wr = b.wr) ∧
      ∀ (K : Act → World → Prop) (Q : Exit → Act → World → Prop), (∀ R2 m1 w2 u, ExtN w1 w2 m.next m1.next (cutR R1 m.next) R2 → m1.next = n1 →
        Rel w1.heap.size (fun k => ∃ i b g, getB (onlyB d.foot m.next wr m.bl []) i = some b ∧ b.wr = true ∧ R1 i = some g ∧ g.b = k ∧ X k) w1 R2 m1 w2 → (∀ i b, getB d.bl i = some b → getB m1.bl i = some b) → d.v.ok R2 u →
        K (a.put d.dst u) w2) → wpOp E.P ops Q j K a w1 := by
  have noW : ∀ (foot : List Nat) i b, getB (onlyB foot m.next false m.bl []) i = some b → b.wr = true → False := by
    intro foot i b hb hw
    obtain ⟨_, _, c, _, _, rfl⟩ := onlyB_get hb
    simp at hw
  have keep : ∀ {x y : List SBlk}, keepB x y = true → ∀ i b, getB x i = some b → (getB y i).isSome = true := by
    intro x y hk i b hb
    have hm : ∀ {l : List SBlk}, getB l i = some b → b ∈ l := by
      intro l
      induction l with
      | nil => intro h; cases h
      | cons c l ih =>
        intro h
        simp only [getB] at h
        split at h
        · cases h; exact List.mem_cons_self ..
        · exact List.mem_cons_of_mem _ (ih h)
    have := allB_iff.1 hk b (hm hb)
    rwa [getB_id hb] at this
  have same : ∀ {n : Nat} {x y : List SBlk}, sameB n x y = true → ∀ i b, getB y i = some b → i < n → ∃ c, getB x i = some c ∧ c.wr = b.wr := by
    intro n x y hk i b hb hi
    have hm : ∀ {l : List SBlk}, getB l i = some b → b ∈ l := by
      intro l
      induction l with
      | nil => intro h; cases h
      | cons c l ih =>
        intro h
        simp only [getB] at h
        split at h
        · cases h; exact List.mem_cons_self ..
        · exact List.mem_cons_of_mem _ (ih h)
    have := allB_iff.1 hk b (hm hb)
    rw [getB_id hb] at this
    simp only [Bool.or_eq_true] at this
    rcases this with h | h
    · have := Nat.le_of_ble_eq_true h; omega
    · split at h
      · rename_i c hc
        exact ⟨c, hc, by simpa using h⟩
      · cases h
  cases h with
  | skip hw hb =>
    have hwant := want_ok hw hT
    rw [hb] at hwant
    refine ⟨rfl, rfl, false, fun i b h1 h2 => (noW _ i b h1 h2).elim, fun i b hb => (by cases hb), fun K Q hK => ?_⟩
    unfold wpOp
    simp only [ho, hwant, Bool.false_eq_true, if_false]
    exact hK _ ⟨m.next, onlyB [] m.next false m.bl [], []⟩ w1 undef (ExtN.refl _ _ _) rfl (hR false) (fun i b hb => by cases hb) ⟨#[], rfl, trivial⟩
  | con hw hb hcl hcon hsat hk1 hk2 =>
    have hwant := want_ok hw hT
    rw [hb] at hwant
    obtain ⟨fn, hfn, hbd, hans⟩ := hE.con _ _ _ _ _ hcon hsat
    obtain ⟨hpf, hpn⟩ := hE.fns _ _ hfn
    obtain ⟨args, ha1, ha2⟩ := callS_ok (w := w1) hcl hT hpf hpn hbd
    refine ⟨rfl, rfl, true, fun i b h1 _ => keep hk1 i b h1, fun i b => same hk2 i b, fun K Q hK => ?_⟩
    refine wpOp_call ho hwant ha2 (hans _ _ _ w1 _ args ha1 (hR true)) ?_
    rintro u w2 ⟨s, m2, R2, ⟨rfl, rfl⟩, h1, h2, h3⟩
    exact hK R2 _ w2 u h1 rfl h2 (fun i b hb => hb) h3
  | call hw hb hcl hfn hc hsat hk1 hk2 =>
    have hwant := want_ok hw hT
    rw [hb] at hwant
    obtain ⟨hpf, hpn⟩ := hE.fns _ _ hfn
    obtain ⟨args, ha1, ha2⟩ := callS_ok (w := w1) hcl hT hpf hpn (by rw [hc]; rfl)
    refine ⟨rfl, rfl, true, fun i b h1 _ => keep hk1 i b h1, fun i b => same hk2 i b, fun K Q hK => ?_⟩
    have hans := inline_ok hE hr hfn hc ha1 (hR true) hsat
    refine wpOp_call ho hwant ha2 hans ?_
    rintro u w2 ⟨s, m2, R2, ⟨rfl, rfl⟩, h1, h2, h3⟩
    exact hK R2 _ w2 u h1 rfl h2 (fun i b hb => hb) h3
  | op hw hb hx hq hk1 hk2 =>
    rename_i b q v m1
    have hwant := want_ok hw hT
    rw [hb] at hwant
    refine ⟨rfl, rfl, writesOp o.op, fun i b h1 h2 => ?_, fun i b hb hi => ?_, fun K Q hK => ?_⟩
    · cases hwr : writesOp o.op with
      | true => rw [hwr] at h1 hk1; simp only [if_true]; exact keep hk1 i b h1
      | false => rw [hwr] at h1; exact (noW _ i b h1 h2).elim
    · cases hwr : writesOp o.op with
      | true => rw [hwr] at hk2 hb; exact same hk2 i b hb hi
      | false =>
        rw [hwr] at hb
        have := (newsB_get hb).1
        omega
    · obtain ⟨R2, w2, u, h1, h2, h3, h4⟩ := xopW_ok hx hq hT (hR (writesOp o.op))
      refine wpOp_value ho hwant h4 (hK R2 m1 w2 u h1 rfl h2 (fun i b hb => ?_) h3)
      split at hb
      · exact hb
      · exact (newsB_get hb).2

omit hE hr in
theorem meet_of {a b : List Nat} {x : Nat} (h1 : x ∈ a) (h2 : x ∈ b) : meet a b = true := by
  unfold meet
  cases h : allB (fun x => !memB b x) a with
  | false => rfl
  | true =>
    have := allB_iff.1 h x h1
    rw [memB_iff.2 h2] at this
    cases this
omit hE hr in
theorem mem_optL {d : Option Nat} {t : Nat} (h : d = some t) : t ∈ optL d := by subst h; simp [optL]
omit hE hr in
theorem mem_dom {d : DRec} {i : Nat} {b : SBlk} (h : getB d.bl i = some b) : i ∈ d.dom := by
  unfold DRec.dom
  generalize d.bl = l at h
  induction l with
  | nil => cases h
  | cons c l ih =>
    simp only [getB] at h
    split at h
    · rename_i e
      have e' : c.id = i := by simpa using e
      simp [e']
    · simp [ih h]
omit hE hr in
theorem anc_closed {ops : Array Oper} {D : Nat → Bool} (hcl : ∀ j o, D j = true → ops[j]? = some o → ∀ p ∈ predsS o, D p = true) {i j : Nat} (h : Anc ops i j) : (∀ o, ops[j]? = some o → ∀ p ∈ predsS o, D p = true) → D i = true := by
  induction h with
  | one h1 h2 => exact fun hp => hp _ h1 _ h2
  | more h1 h2 _ ih => exact fun hp => ih fun o ho p hpo => hcl _ o (hp _ h1 _ h2) ho p hpo

theorem draw_ok : DrawOk E r := by
  intro id tag ops T m n0 F w0 w R a next A B h hT hR
  unfold drawT at h
  obtain ⟨ds, T', m', h, hlen, Ts, ms, eT0, em0, eTn, emn, htr⟩ := drawG_trace h
  split at h
  case h_2 => exact h.elim
  rename_i hord
  refine ⟨T', _, h, fun b k cs => ?_⟩
  clear h
  have hn : ds.length = ops.size := by rw [hlen, Array.length_toList]
  have htr' : ∀ j d, ds[j]? = some d → ∃ o, ops[j]? = some o ∧ DoneBy E r ops o (Ts j) (ms j) d (ms (j + 1)).next ∧ Ts (j + 1) = dstS (Ts j) d.dst d.v ∧ (ms (j + 1)).bl = d.bl ++ (ms j).bl ∧ (ms j).next ≤ (ms (j + 1)).next := by
    intro j d hj
    have hjl : j < ds.length := (List.getElem?_eq_some_iff.1 hj).1
    have ho : ops[j]? = some ops[j] := Array.getElem?_eq_getElem (by omega)
    obtain ⟨d', h1, h2, h4, h5, h6, _⟩ := htr j ops[j] (by simp)
    rw [hj] at h1
    cases h1
    exact ⟨_, ho, h2, h4, h5, h6⟩
  have hat : ∀ j, j < ds.length → ∃ d, ds[j]? = some d := fun j hj => ⟨_, List.getElem?_eq_getElem hj⟩
  have hmono : ∀ i, i < ds.length → (ms i).next ≤ (ms (i + 1)).next := by
    intro i hi
    obtain ⟨d, hd⟩ := hat i hi
    obtain ⟨_, _, _, _, _, h⟩ := htr' i d hd
    exact h
  have hTlen : ∀ j, j ≤ ds.length → (Ts j).length = T.length := by
    intro j
    induction j with
    | zero => intro _; rw [eT0]
    | succ j ih =>
      intro hj
      obtain ⟨d, hd⟩ := hat j (by omega)
      obtain ⟨_, _, _, h, _⟩ := htr' j d hd
      rw [h, ← ih (by omega)]
      cases d.dst <;> simp [dstS, setN_eq]
  have hTs : ∀ j, j ≤ ds.length → ∀ t, nth (Ts j) t = stat (nth T) (recT ds T.length) (fun _ => true) j t := by
    intro j
    induction j with
    | zero => intro _ t; rw [eT0]; rfl
    | succ j ih =>
      intro hj t
      obtain ⟨d, hd⟩ := hat j (by omega)
      obtain ⟨_, _, _, h, _⟩ := htr' j d hd
      have hl := hTlen j (by omega)
      rw [h]
      simp only [stat, if_true, ← ih (by omega) t, recT, hd]
      cases hdd : d.dst with
      | none => simp [dstS]
      | some t' =>
        simp only [dstS, setN_eq, nth_eq, List.getElem?_set, hl, Option.some.injEq]
        by_cases e : t' = t
        · subst e
          by_cases hlt : t' < T.length
          · simp [hlt]
          · simp [hlt, hl]
        · simp [e]
  have hMs : ∀ j, j ≤ ds.length → ∀ i, getB (ms j).bl i = stat (getB m.bl) (recB ds) (fun _ => true) j i := by
    intro j
    induction j with
    | zero => intro _ t; rw [em0]; rfl
    | succ j ih =>
      intro hj i
      obtain ⟨d, hd⟩ := hat j (by omega)
      obtain ⟨_, _, _, _, h, _⟩ := htr' j d hd
      rw [h, getB_append]
      simp only [stat, if_true, ← ih (by omega) i, recB, hd]
      cases getB d.bl i <;> rfl
  have hord' := orderS_ok (ops := ops) (all := ds) (l := ops.toList) (n := 0) (tab := []) rfl (Nat.zero_le _) hord rfl (fun p _ hp => by omega)
  let Q : Exit → Act → World → Prop := fun e a' w' => e = .normal ∧ ∃ D R1, (∀ i, i < ds.length → D i = true) ∧ DInv a.defers ds T m ms n0 F w0 R w D R1 a' w'
  have step : ∀ (D : Nat → Bool) (R1 : Ren) (a1 : Act) (w1 : World) (j : Nat) (K : Act → World → Prop), (∀ i, D i = true → i < ds.length) → (∀ j o, D j = true → ops[j]? = some o → ∀ p ∈ predsS o, D p = true) → DInv a.defers ds T m ms n0 F w0 R w D R1 a1 w1 →
      j < ds.length → D j = false → (∀ o, ops[j]? = some o → ∀ p ∈ predsS o, D p = true) →
      (∀ R3 a2 w2, DInv a.defers ds T m ms n0 F w0 R w (fun i => i == j || D i) R3 a2 w2 → K a2 w2) → wpOp E.P ops Q j K a1 w1 := by
    intro D R1 a1 w1 j K hDl hcl inv hj hD hpr hK
    obtain ⟨d, hd⟩ := hat j hj
    obtain ⟨o, ho, hdop, hTj, hMj, _⟩ := htr' j d hd
    obtain ⟨_, hcl1⟩ := hord' j d o (Nat.zero_le _) hd ho
    have early : ∀ i x, i < j → ds[i]? = some x → clash x d = true → D i = true := fun i x hi hx hc => anc_closed hcl (hcl1 i x hi hx hc) hpr
    have late : ∀ i x, j < i → D i = true → ds[i]? = some x → clash d x = true → False := by
      intro i x hi hDi hx hc
      obtain ⟨o', ho', _⟩ := htr' i x hx
      obtain ⟨_, hcl2⟩ := hord' i x o' (Nat.zero_le _) hx ho'
      have := anc_closed hcl (hcl2 j d hi hd hc) fun o2 ho2 p hp => hcl i o2 hDi ho2 p hp
      rw [hD] at this
      cases this
    have nonT : ∀ {i t}, recT ds T.length i t ≠ none → ∃ x, ds[i]? = some x ∧ x.dst = some t := by
      intro i t h
      unfold recT at h
      cases hx : ds[i]? with
      | none => rw [hx] at h; exact (h rfl).elim
      | some x =>
        rw [hx] at h
        dsimp only at h
        split at h
        · rename_i hc; exact ⟨x, rfl, hc.1⟩
        · exact (h rfl).elim
    have nonB : ∀ {i t}, recB ds i t ≠ none → ∃ x, ds[i]? = some x ∧ t ∈ x.dom := by
      intro i t h
      unfold recB at h
      cases hx : ds[i]? with
      | none => rw [hx] at h; exact (h rfl).elim
      | some x =>
        rw [hx] at h
        dsimp only at h
        cases hg : getB x.bl t with
        | none => rw [hg] at h; exact (h rfl).elim
        | some b => exact ⟨x, rfl, mem_dom hg⟩
    have seeT : ∀ t, t ∈ d.looks → stat (nth T) (recT ds T.length) D ds.length t = nth (Ts j) t := by
      intro t ht
      rw [hTs j (by omega)]
      refine stat_pre (by omega) (fun i hi hr => ?_) (fun i h1 h2 hDi => ?_)
      · obtain ⟨x, hx, hxd⟩ := nonT hr
        exact early i x hi hx (by simp [clash, meet_of (mem_optL hxd) (List.mem_append_left (optL d.dst) ht)])
      · rcases Nat.lt_or_ge j i with hlt | hge
        · refine Classical.byContradiction fun hr => ?_
          obtain ⟨x, hx, hxd⟩ := nonT hr
          exact late i x hlt hDi hx (by simp [clash, meet_of (mem_optL hxd) ht])
        · obtain rfl : i = j := by omega
          rw [hD] at hDi
          cases hDi
    have seeB : ∀ i, i ∈ d.foot → stat (getB m.bl) (recB ds) D ds.length i = getB (ms j).bl i := by
      intro t ht
      rw [hMs j (by omega)]
      refine stat_pre (by omega) (fun i hi hr => ?_) (fun i h1 h2 hDi => ?_)
      · obtain ⟨x, hx, hxd⟩ := nonB hr
        exact early i x hi hx (by simp [clash, meet_of hxd (List.mem_append_left d.dom ht)])
      · rcases Nat.lt_or_ge j i with hlt | hge
        · refine Classical.byContradiction fun hr => ?_
          obtain ⟨x, hx, hxd⟩ := nonB hr
          exact late i x hlt hDi hx (by simp [clash, meet_of hxd ht])
        · obtain rfl : i = j := by omega
          rw [hD] at hDi
          cases hDi
    have lateT : ∀ t, recT ds T.length j t ≠ none → ∀ i, j < i → i < ds.length → D i = true → recT ds T.length i t = none := by
      intro t ht i hi _ hDi
      refine Classical.byContradiction fun hr => ?_
      obtain ⟨x, hx, hxd⟩ := nonT hr
      obtain ⟨y, hy, hyd⟩ := nonT ht
      rw [hd] at hy
      cases hy
      exact late i x hi hDi hx (by simp [clash, meet_of (mem_optL hyd) (List.mem_append_right x.looks (mem_optL hxd))])
    have lateB : ∀ t, recB ds j t ≠ none → ∀ i, j < i → i < ds.length → D i = true → recB ds i t = none := by
      intro t ht i hi _ hDi
      refine Classical.byContradiction fun hr => ?_
      obtain ⟨x, hx, hxd⟩ := nonB hr
      obtain ⟨y, hy, hyd⟩ := nonB ht
      rw [hd] at hy
      cases hy
      exact late i x hi hDi hx (by simp [clash, meet_of hyd (List.mem_append_right x.foot hxd)])
    have hTm : TmOk (cutR R1 (ms j).next) (onlyT d.looks (ms j).next 0 (Ts j)) a1 := by
      refine all2_of_nth (by rw [onlyT_len, hTlen j (by omega)]; simp [inv.size]) fun i x v hx hv => ?_
      rw [onlyT_get] at hx
      obtain ⟨y, hy, rfl⟩ := Option.map_eq_some_iff.1 hx
      split
      · rename_i s hmem
        split
        · rename_i hlt
          rw [Nat.zero_add] at hmem
          have hst := seeT i (memB_iff.1 hmem)
          rw [hy] at hst
          obtain ⟨v', h1, h2⟩ := inv.tm i _ hst
          rw [Array.getElem?_toList, h1] at hv
          cases hv
          exact SV.cut hlt h2
        · trivial
      · trivial
    have hlocs : ∀ wr i b, getB (onlyB d.foot (ms j).next wr (ms j).bl []) i = some b → ∃ c, stat (getB m.bl) (recB ds) D ds.length i = some c ∧ (b.wr = true → c.wr = true) := by
      intro wr i b hb
      obtain ⟨h1, _, c, h2, _, rfl⟩ := onlyB_get hb
      refine ⟨c, by rw [seeB i h1]; exact h2, fun hw => ?_⟩
      simp only [Bool.and_eq_true] at hw
      exact hw.1
    have hRl : ∀ wr, Rel w1.heap.size (fun k => ∃ i b g, getB (onlyB d.foot (ms j).next wr (ms j).bl []) i = some b ∧ b.wr = true ∧ R1 i = some g ∧ g.b = k ∧ (n0 ≤ k ∨ F k)) w1 (cutR R1 (ms j).next) ⟨(ms j).next, onlyB d.foot (ms j).next wr (ms j).bl [], []⟩ w1 := by
      intro wr
      refine ⟨fun i k g h b c h1 h2 h3 h4 h5 h6 => ?_, fun i g h => inv.lt i g (cutR_ext _ _ h), fun i g h => ?_, fun i b hb => ?_, Nat.le_refl _, BelowF.refl _ _ _, fun _ _ hx => (by cases hx), fun _ _ _ _ _ _ _ _ _ hx => (by cases hx), fun g cs hg => ?_⟩
      rotate_left 3
      · obtain ⟨g1, g2, cs', ty, fz, g3, g4⟩ := hR.gl g cs hg
        refine ⟨Nat.lt_of_lt_of_le g1 inv.base, ?_, cs', ty, fz, (inv.fr.block g g1 g2).trans g3, g4⟩
        rintro ⟨_, _, _, _, _, _, _, h | h⟩
        · omega
        · exact g2 h
      · obtain ⟨b', k1, k2⟩ := hlocs wr i b h4
        obtain ⟨c', k3, k4⟩ := hlocs wr k c h5
        exact inv.inj i k g h b' c' (cutR_ext _ _ h1) (cutR_ext _ _ h2) h3 k1 k3 (h6.imp k2 k4)
      · unfold cutR at h
        split at h
        · assumption
        · cases h
      · have hb' := hb
        obtain ⟨h1, _, c, h2, h3, rfl⟩ := onlyB_get hb
        have hst := seeB i h1
        rw [h2] at hst
        obtain ⟨g, cs, fz, k1, k2, ks, k3, k4⟩ := inv.blk i c hst
        simp only [Bool.and_eq_true] at h3
        have hci : i < (ms j).next := by
          have h4 := h3.1
          rw [getB_id h2] at h4
          simpa using h4
        refine ⟨g, cs, fz, cutR_lt k1 hci, k2, ks, SA.cutM h3.2 k3, fun hw => ?_⟩
        simp only [Bool.and_eq_true] at hw
        obtain ⟨k5, k6⟩ := k4 hw.1
        exact ⟨.inr ⟨i, _, g, hb', by simp [hw], k1, rfl, k5⟩, k6⟩
    obtain ⟨_, _, wr, hloc, hsame, hgo⟩ := dop_ok hE hr hdop ho hTm hRl
    exact hgo K Q fun R2 m1 w2 u h1 h2 h3 h4 h5 =>
      let ⟨R3, h6⟩ := inv.after hd hD (by rw [em0]) hmono lateT lateB hloc (hlocs wr) hsame h1 h2 h3 h4 h5
      hK R3 _ _ h6
  have getD2 : ∀ (listed : Array Bool) (i : Nat), i < listed.size → listed.getD i true = listed.getD i false := by
    intro listed i hi
    simp [Array.getD, hi]
  have none : ∀ (listed : Array Bool), listed.size = ops.size → Region.ready .any ops listed = [] → ∀ i, i < ops.size → listed.getD i false = true := by
    intro listed hsz hrd i
    induction i using Nat.strongRecOn with
    | ind i ih =>
      intro hi
      refine Classical.byContradiction fun hf => ?_
      have ho : ops[i]? = some ops[i] := Array.getElem?_eq_getElem hi
      obtain ⟨d, hd⟩ := hat i (by omega)
      obtain ⟨hedge, _⟩ := hord' i d ops[i] (Nat.zero_le _) hd ho
      have hmem : i ∈ Region.ready .any ops listed := by
        unfold Region.ready
        refine List.mem_filter.2 ⟨List.mem_range.2 hi, ?_⟩
        rw [getD2 listed i (by omega), ho]
        have hf' : listed.getD i false = false := by simpa using hf
        rw [hf']
        simp only [Bool.not_false, Bool.true_and, Option.map_some, Option.getD_some, Array.all_eq_true, Bool.or_eq_true]
        intro k hk
        have he := hedge ops[i].after[k] (Array.getElem_mem_toList hk)
        cases hb : Region.binds .any ops[i].after[k] with
        | false => exact .inl rfl
        | true => exact .inr (ih _ (he hb) (by have := he hb; omega))
      rw [hrd] at hmem
      cases hmem
  have all : ∀ (fuel : Nat) (listed : Array Bool) (R1 : Ren) (a1 : Act) (w1 : World), listed.size = ops.size → (∀ j o, listed.getD j false = true → ops[j]? = some o → ∀ p ∈ predsS o, listed.getD p false = true) →
      ((List.range ops.size).filter fun i => !listed.getD i false).length ≤ fuel → DInv a.defers ds T m ms n0 F w0 R w (fun i => listed.getD i false) R1 a1 w1 → wpAny E.P .any ops Q fuel listed a1 w1 := by
    intro fuel
    induction fuel with
    | zero =>
      intro listed R1 a1 w1 hsz hcl hc inv
      have hl : ∀ i, i < ops.size → listed.getD i false = true := by
        intro i hi
        refine Classical.byContradiction fun hf => ?_
        have : i ∈ (List.range ops.size).filter fun i => !listed.getD i false := List.mem_filter.2 ⟨List.mem_range.2 hi, by simpa using hf⟩
        rw [List.eq_nil_of_length_eq_zero (Nat.le_zero.1 hc)] at this
        cases this
      refine ⟨?_, rfl, _, R1, fun i hi => hl i (by omega), inv⟩
      refine List.filter_eq_nil_iff.2 fun i hi => ?_
      rw [getD2 listed i (by rw [hsz]; exact List.mem_range.1 hi), hl i (List.mem_range.1 hi)]
      simp
    | succ fuel ih =>
      intro listed R1 a1 w1 hsz hcl hc inv
      refine ⟨fun hrd => ⟨rfl, _, R1, fun i hi => none listed hsz hrd i (by omega), inv⟩, fun j hj => ?_⟩
      unfold Region.ready at hj
      obtain ⟨hj1, hj2⟩ := List.mem_filter.1 hj
      have hjl : j < ops.size := List.mem_range.1 hj1
      rw [getD2 listed j (by omega)] at hj2
      simp only [Bool.and_eq_true] at hj2
      have hDj : listed.getD j false = false := by simpa using hj2.1
      have hpr : ∀ o, ops[j]? = some o → ∀ p ∈ predsS o, listed.getD p false = true := by
        intro o ho p hp
        have h2 := hj2.2
        rw [ho] at h2
        simp only [Option.map_some, Option.getD_some, Array.all_eq_true, Bool.or_eq_true] at h2
        unfold predsS at hp
        obtain ⟨e, he, rfl⟩ := List.mem_map.1 hp
        obtain ⟨he1, he2⟩ := List.mem_filter.1 he
        obtain ⟨k, hk, hke⟩ := List.getElem_of_mem he1
        have hk' : k < o.after.size := by simpa using hk
        have := h2 k hk'
        have hke' : o.after[k] = e := by rw [← hke]; simp
        rw [hke', he2] at this
        simpa using this
      have upd : ∀ i, (listed.setIfInBounds j true).getD i false = (i == j || listed.getD i false) := by
        intro i
        by_cases e : i = j
        · subst e
          simp [Array.getD_eq_getD_getElem?, Array.getElem?_setIfInBounds_self_of_lt (show i < listed.size by omega)]
        · simp [Array.getD_eq_getD_getElem?, Array.getElem?_setIfInBounds_ne (Ne.symm e), e]
      refine step (fun i => listed.getD i false) R1 a1 w1 j _ (fun i hi => ?_) hcl inv (by omega) hDj hpr fun R3 a2 w2 inv2 => ?_
      · rcases Nat.lt_or_ge i listed.size with h | h
        · omega
        · simp [Array.getD, Nat.not_lt.2 h] at hi
      · refine ih (listed.setIfInBounds j true) R3 a2 w2 (by simpa using hsz) ?_ ?_ (by simpa only [upd] using inv2)
        · intro i o hi ho p hp
          rw [upd] at hi ⊢
          simp only [Bool.or_eq_true, beq_iff_eq] at hi ⊢
          rcases hi with rfl | hi
          · exact .inr (hpr o ho p hp)
          · exact .inr (hcl i o hi ho p hp)
        · have hlt : ((List.range ops.size).filter fun i => !(listed.setIfInBounds j true).getD i false).length < ((List.range ops.size).filter fun i => !listed.getD i false).length := by
            have e : ((List.range ops.size).filter fun i => !(listed.setIfInBounds j true).getD i false) = ((List.range ops.size).filter fun i => !listed.getD i false).filter fun i => !(i == j) := by
              rw [List.filter_filter]
              refine List.filter_congr fun i _ => ?_
              rw [upd]
              cases (i == j) <;> simp
            rw [e]
            refine List.length_filter_lt_length_iff_exists.2 ⟨j, List.mem_filter.2 ⟨hj1, by rw [hDj]; rfl⟩, by simp⟩
          omega
  have start : DInv a.defers ds T m ms n0 F w0 R w (fun i => (Array.replicate ops.size false).getD i false) R a { w with drawn := w.drawn + 1 } := by
    have hnone : ∀ i, (Array.replicate ops.size false).getD i false = false := by
      intro i
      simp only [Array.getD_eq_getD_getElem?, Array.getElem?_replicate]
      split <;> rfl
    have e0 : ∀ {K V : Type} {init : K → V} {rec : Nat → K → Option V} (k : K), stat init rec (fun i => (Array.replicate ops.size false).getD i false) ds.length k = init k := by
      intro K V init rec k
      exact stat_none (Nat.zero_le _) fun i _ _ hi => by rw [hnone] at hi; cases hi
    have hsz := hT.len_eq
    refine ⟨rfl, by simpa using hsz.symm, Ext.refl R, fun i g h => .inl h, Nat.le_refl _, ?_, ?_, hR.lt, fun i g h => .inl (hR.nx i g h), ?_, hR.base, ⟨hR.fr.os, hR.fr.tape, hR.fr.output, hR.fr.size, hR.fr.block⟩, hR.xo⟩
    · intro t x ht
      rw [e0] at ht
      obtain ⟨v, h1, h2⟩ := hT.nth ht
      exact ⟨v, by simpa using h1, h2⟩
    · intro i j g h b c h1 h2 h3 h4 h5
      rw [e0] at h4 h5
      exact hR.inj i j g h b c h1 h2 h3 h4 h5
    · intro i b hb
      rw [e0] at hb
      exact hR.blk i b hb
  have hwp := wp_region_any (P := E.P) (ops := ops) (Q := Q) (id := id) (a := a) (w := w) hE.mixed
    (all ops.size _ R a _ (by simp) (fun j o hj => by
      have : (Array.replicate ops.size false).getD j false = false := by
        simp only [Array.getD_eq_getD_getElem?, Array.getElem?_replicate]
        split <;> rfl
      rw [this] at hj
      cases hj) (by
      refine Nat.le_trans (List.length_filter_le _ _) ?_
      simp) start)
  obtain ⟨e, a', w', ⟨rfl, D, R1, hD, inv⟩, harr⟩ := hwp b k cs
  have eT : ∀ t, stat (nth T) (recT ds T.length) D ds.length t = nth T' t := by
    intro t
    rw [← eTn, ← hlen, hTs _ (Nat.le_refl _)]
    exact stat_same fun i hi _ => hD i hi
  have eB : ∀ i, stat (getB m.bl) (recB ds) D ds.length i = getB m'.bl i := by
    intro i
    rw [← emn, ← hlen, hMs _ (Nat.le_refl _)]
    exact stat_same fun j hj _ => hD j hj
  have hmono' : ∀ i k, i ≤ k → k ≤ ds.length → (ms i).next ≤ (ms k).next := by
    intro i k hik
    induction k with
    | zero =>
      intro _
      obtain rfl : i = 0 := (by omega)
      exact Nat.le_refl _
    | succ k ih =>
      intro hk
      by_cases e : i = k + 1
      · rw [e]; exact Nat.le_refl _
      · exact Nat.le_trans (ih (by omega) (by omega)) (hmono k (by omega))
  have hnext : m.next ≤ m'.next := by
    rw [← em0, ← emn, ← hlen]
    exact hmono' 0 _ (by omega) (Nat.le_refl _)
  refine ⟨a', w', R1, ⟨inv.ext, inv.new, inv.grows, hnext⟩, ?_, inv.defers, ?_, harr⟩
  · refine all2_of_nth ?_ fun i x v hx hv => ?_
    · have e : T'.length = T.length := by rw [← eTn, ← hlen]; exact hTlen _ (Nat.le_refl _)
      rw [e]
      simp [inv.size]
    · rw [← eT] at hx
      obtain ⟨v', h1, h2⟩ := inv.tm i x hx
      rw [Array.getElem?_toList, h1] at hv
      cases hv
      exact h2
  · have hRel : Rel n0 F w0 R1 ⟨m'.next, m'.bl, m.xs⟩ w' := by
      refine ⟨fun i j g h b c h1 h2 h3 h4 h5 => inv.inj i j g h b c h1 h2 h3 (by rw [eB]; exact h4) (by rw [eB]; exact h5), inv.lt, fun i g h => ?_, fun i b hb => ?_, inv.base, inv.fr, inv.xo, hR.xi' inv.ext, hR.gl⟩
      · show i < m'.next
        rcases inv.dom i g h with h | ⟨k, hk, _, _, h5⟩
        · omega
        · have := hmono' (k + 1) ds.length (by omega) (Nat.le_refl _)
          rw [hlen, emn] at this
          omega
      · have hb : getB m'.bl i = some b := hb
        rw [← eB] at hb
        exact inv.blk i b hb
    exact hRel.compact
end
end Go.Proofs.YtahfhgdafobfmaaDoor
