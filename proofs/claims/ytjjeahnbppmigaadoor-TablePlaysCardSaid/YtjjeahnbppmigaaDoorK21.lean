/- A region in the midst of its order, in a round too: one operation is done, the others are left; all are done. No condition. -/
import Derived.Test.YtjjeahnbppmigaaDoorK10
import Derived.AtR
set_option linter.unusedVariables false
set_option linter.unusedSimpArgs false
namespace Go.Proofs.YtjjeahnbppmigaaDoor
theorem noDefer_ok {ops : Array Oper} (h : noDefer ops.toList = true) (i : Nat) (o : Oper) (c : _) (ho : ops[i]? = some o) : o.op ≠ .defer c := by
  intro e
  have := allB_iff.1 h o (Array.mem_toList_iff.2 (Array.mem_of_getElem? ho))
  rw [e] at this
  cases this
theorem semAt_of {b : Frame} {o : Oper} {ρ : Operand → Value} (h : b.roundOf = none ∨ ∀ c, o.op ≠ .defer c) : o.semAt b.roundOf ρ = execOp ρ o := by
  rcases h with h | h
  · rw [h]; exact Oper.semAt_none _ _
  · exact Oper.semAt_eq _ _ _ h
theorem wp_one {P : Program} {ops : Array Oper} {i : Nat} {Q : Exit → Act → World → Prop} (hQ : ∀ e a w, Q e a w → e = .normal) {K : Act → World → Prop} {a : Act} {w : World} (h : wpOp P ops Q i K a w) (rest : List Nat) (b : Frame) (hb : b.roundOf = none ∨ ∀ o c, ops[i]? = some o → o.op ≠ .defer c) (k : List Item) (cs : List Frame) :
    ∃ a' w', K a' w' ∧ Steps P (lone (b.atR a (.inRegion ops (i :: rest) :: k)) cs w) (lone (b.atR a' (.inRegion ops rest :: k)) cs w') := by
  unfold wpOp at h
  cases ho : ops[i]? with
  | none =>
    rw [ho] at h
    have hs := stepR_op_skip (P := P) (b := b) (a := a) (k := k) (cs := cs) (w := w) (ops := ops) (i := i) (rest := rest) (by simp [ho])
    simp only [ho, Option.bind_none, Act.put] at hs
    exact ⟨a, w, h, .one hs⟩
  | some o =>
    simp only [ho] at h
    by_cases hw : Region.wanted o (yielded ops a.tmps) = true
    · simp only [hw, if_true] at h
      rcases h with h | ⟨_, a0, w0, hq⟩
      case inr => cases hQ _ _ _ hq
      have hg := stepGR_op (P := P) (b := b) (k := k) (cs := cs) (w := w) (rest := rest) ho hw
      rw [semAt_of (hb.imp id fun h c => h o c ho)] at hg
      have hfin : ∀ v, (b.atR a (.inRegion ops (i :: rest) :: k)).finish v = b.atR (a.put o.dst v) (.inRegion ops rest :: k) := fun v => by rw [Frame.finish_atR, ho]; rfl
      unfold Oper.wp at h
      generalize hr : (execOp a.eval o).run P w = res at h
      match res, h with
      | .ok (.value v) w', h => exact ⟨_, _, h, .one (step_lone_go (by rw [hg, ← hfin]; simp [stepG.apply, hr]))⟩
      | .ok .skip w', h => exact ⟨_, _, h, .one (step_lone_go (by rw [hg, ← hfin]; simp [stepG.apply, hr]))⟩
      | .ok (.defer d) w', h =>
        refine ⟨_, _, h, .one (step_lone_go ?_)⟩
        have e := Frame.finish_atR b { a with defers := d :: a.defers } ops i rest k undef
        rw [ho] at e
        have e : ({ b.atR a (.inRegion ops (i :: rest) :: k) with defers := d :: a.defers } : Frame).finish undef = b.atR ({ a with defers := d :: a.defers }.put o.dst undef) (.inRegion ops rest :: k) := e
        rw [hg]; simp only [stepG.apply, Sem.runT_eq, hr, GStep.bare_after]
        exact congrArg (fun fr => GStep.go { frame := fr, callers := cs, status := .running, dying := none } w') e
      | .ok (.enter f args) w', h =>
        have h : Calls P f args w' _ := h
        obtain ⟨e, w2, fr, hR, hst, _, hleave⟩ := h (b.atR a (.inRegion ops (i :: rest) :: k) :: cs)
        have hen : step P (lone (b.atR a (.inRegion ops (i :: rest) :: k)) cs w) = .next (lone (Frame.enter P f args .normal) (b.atR a (.inRegion ops (i :: rest) :: k) :: cs) w') :=
          step_lone_go (by rw [hg]; simp [stepG.apply, hr, Frame.atR])
        cases e with
        | returned v => exact ⟨_, _, hR, .head hen (hst.trans (.one (by rw [← hfin]; exact step_leave_returned hleave)))⟩
        | panicked chain => cases hQ _ _ _ hR
        | outgrown =>
          obtain ⟨_, _, hq⟩ := hR
          cases hQ _ _ _ hq
      | .ok (.row row args) w', h =>
        have h : Rows P row args w' _ := h
        obtain ⟨v, w2, hR, hst⟩ := h (b.atR a (.inRegion ops (i :: rest) :: k)) cs
        have hen : step P (lone (b.atR a (.inRegion ops (i :: rest) :: k)) cs w) = .next (lone (Frame.ofRow P row args .normal) (b.atR a (.inRegion ops (i :: rest) :: k) :: cs) w') :=
          step_lone_go (by rw [hg]; simp [stepG.apply, hr, Frame.atR])
        exact ⟨_, _, hR, .head hen (by rw [← hfin]; exact hst)⟩
      | .halt (.panic v) w', h => cases hQ _ _ _ h
    · simp only [hw, if_false, Bool.false_eq_true] at h
      have hs := stepR_op_skip (P := P) (b := b) (a := a) (k := k) (cs := cs) (w := w) (ops := ops) (i := i) (rest := rest) (by simp [ho]; simpa using hw)
      simp only [ho, Option.bind_some] at hs
      exact ⟨_, _, h, .one hs⟩
theorem ops_steps {P : Program} {ops : Array Oper} {Q : Exit → Act → World → Prop} (hQ : ∀ e a w, Q e a w → e = .normal) (b : Frame) (hb : b.roundOf = none ∨ ∀ (i : Nat) o c, ops[i]? = some o → o.op ≠ .defer c) (k : List Item) (cs : List Frame) : ∀ (l : List Nat) (a : Act) (w : World), wpOps P ops Q l a w →
    ∃ a' w', Q .normal a' w' ∧ Steps P (lone (b.atR a (.inRegion ops l :: k)) cs w) (lone (b.atR a' k) cs w')
  | [], a, w, h => ⟨a, w, h, .one stepR_region_end⟩
  | i :: l, a, w, h => by
    rw [wpOps_cons] at h
    obtain ⟨a1, w1, h1, s1⟩ := wp_one hQ h l b (hb.imp id fun h o c ho => h i o c ho) k cs
    obtain ⟨a2, w2, h2, s2⟩ := ops_steps hQ b hb k cs l a1 w1 h1
    exact ⟨a2, w2, h2, s1.trans s2⟩
end Go.Proofs.YtjjeahnbppmigaaDoor
