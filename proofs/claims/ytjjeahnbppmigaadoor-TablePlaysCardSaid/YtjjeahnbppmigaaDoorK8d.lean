/- An item is met; a frame is left; the machine's steps. No condition. -/
import Derived.Test.YtjjeahnbppmigaaDoorK8c
set_option linter.unusedVariables false
set_option linter.unusedSimpArgs false
namespace Go.Proofs.YtjjeahnbppmigaaDoor
set_option linter.unusedSectionVars false
variable [Gh]

section
variable {E : Env} (hE : EnvOk E) {r : List SFr → SMem → Tree} {A : SV → SMem → Prop} {B : List SFr → SMem → Prop} {n0 : Nat} {F : Nat → Prop} {w0 ws : World} {Rs : Ren} {base : Nat} {f0 : FuncId} {Φ : Value → World → Prop}
variable {f : SFr} {cs : List SFr} {m : SMem} {w : World} {R : Ren} {fn : FuncId} {tmps : Array Value} {ds : List Deferred} {kind : CallKind} {ro : Option Nat} {frs : List Frame} {todo ys : List Item} {mode : FrameMode}
theorem leave_ok (on : On E r A B n0 F w0 ws Rs base f0 Φ) (hf : FrOk R f ⟨fn, tmps, todo, ds, .run, kind, ro⟩) (hcs : All2 (FrOk R) cs frs) (hl : lastFn (f :: cs) = f0) (hR : Rel n0 F w0 R m w) (hX : ExtN ws w base m.next Rs R) {jump : Option Code} {ends : Bool} (h : (leaveT r f cs m jump ends).sat A B)
    (hj : (todo = [] ∧ jump = none ∧ ends = true) ∨ (∃ k, todo = .code .ret :: k ∧ jump = some .ret ∧ ends = true) ∨ ∃ id k, todo = .code (.exit id) :: k ∧ exitTo id k = none ∧ jump = some (.exit id) ∧ ends = false) : Leads E.P f0 ⟨fn, tmps, todo, ds, .run, kind, ro⟩ frs w Φ := by
  obtain ⟨h1, h2, h3, h4, h5, h6, h7⟩ := hf
  dsimp only at h1 h2 h3 h4 h5 h6 h7
  unfold leaveT at h
  split at h
  · rename_i hrnd
    rw [hrnd] at h7
    obtain rfl : ro = _ := h7
    split at h
    · refine (on h (by rw [← hl]; exact lastFn_head (by rfl) cs) (fr' := ⟨fn, tmps, todo, ds, .returning, kind, none⟩) ⟨⟨h1, h2, h3, h4, rfl, h6, by rw [hrnd]; rfl⟩, hcs⟩ hR hX).one fun dd => ?_
      rcases hj with ⟨rfl, _⟩ | ⟨k, rfl, _⟩ | ⟨_, _, _, _, _, h0⟩
      · exact st_end
      · exact st_ret
      · cases h0
    · exact h.elim
  · rename_i l hrnd
    rw [hrnd] at h7
    obtain ⟨g, hg, rfl⟩ := h7
    cases hx : getX m.xs l with
    | none => rw [hx] at h; exact h.elim
    | some xo =>
      rw [hx] at h
      cases cs with
      | nil => cases xo <;> exact h.elim
      | cons c cs' =>
        cases xo with
        | defr => exact h.elim
        | map _ _ => exact h.elim
        | mapR _ _ => exact h.elim
        | mapI _ _ _ _ => exact h.elim
        | mapE _ _ => exact h.elim
        | iter _ _ _ _ => exact h.elim
        | loop st pend lfn tm ps as bd dl =>
          dsimp only at h
          split at h
          · rename_i hkind
            rw [hkind] at h6
            obtain rfl : kind = _ := h6
            cases frs with
            | nil => exact hcs.elim
            | cons fc fcs =>
              obtain ⟨hc, hcs⟩ := hcs
              obtain ⟨g', o, k1, k2, ⟨ltm, gd, k3, k4, rfl⟩, kset, _⟩ := hR.setX hx rfl
              rw [hg] at k1
              cases k1
              have hR' := kset (.loop (if jump.isNone then .ready else .done) jump lfn tm ps as bd dl) _ ⟨ltm, gd, k3, k4, rfl⟩
              refine (on.finish h hl hc hcs rfl hR' (hX.trans (ExtN.same _ R (by simp)))).one fun dd => ?_
              exact st_round k2 (by
                rcases hj with ⟨a1, a2, _⟩ | ⟨k, a1, a2, _⟩ | ⟨id, k, a1, a2, a3, _⟩
                · exact .inl ⟨a1, a2⟩
                · exact .inr (.inl ⟨k, a1, a2⟩)
                · exact .inr (.inr ⟨id, k, a1, a2, a3⟩))
          · exact h.elim
theorem endT_ok (on : On E r A B n0 F w0 ws Rs base f0 Φ) {l : Nat} {k : List SIt} {g : Loc} (hf : FrOk R f ⟨fn, tmps, .endRangeFunc g.b :: ys, ds, .run, kind, ro⟩) (hys : All2 (ItOk R) k ys) (hg : R l = some g) (hcs : All2 (FrOk R) cs frs) (hl : lastFn (f :: cs) = f0) (hR : Rel n0 F w0 R m w) (hX : ExtN ws w base m.next Rs R)
    (h : (endT r f l k cs m).sat A B) : Leads E.P f0 ⟨fn, tmps, .endRangeFunc g.b :: ys, ds, .run, kind, ro⟩ frs w Φ := by
  obtain ⟨h1, h2, h3, h4, h5, h6, h7⟩ := hf
  dsimp only at h1 h2 h3 h4 h5 h6 h7
  unfold endT at h
  split at h
  · rename_i st pend lfn tm ps as bd dl hx
    obtain ⟨g', o, k1, k2, ⟨ltm, gd, k3, k4, rfl⟩, _, kdrop⟩ := hR.setX hx rfl
    rw [hg] at k1
    cases k1
    have fin : st ≠ .busy → (r ({ f with todo := pendS pend k } :: cs) ⟨m.next, m.bl, dropX m.xs l⟩).sat A B →
        Leads E.P f0 ⟨fn, tmps, .endRangeFunc g.b :: ys, ds, .run, kind, ro⟩ frs w Φ := by
      intro hst h
      refine (on (fr' := ⟨fn, tmps, (pend.map Item.code).toList ++ ys, ds, .run, kind, ro⟩) h (by rw [← hl]; exact lastFn_head (by rfl) cs) ⟨⟨h1, h2, ?_, h4, h5, h6, h7⟩, hcs⟩ (kdrop _) (hX.trans (ExtN.same _ R (by simp)))).one fun dd => st_endLoop k2 hst
      cases pend with
      | none => exact hys
      | some c => exact ⟨rfl, hys⟩
    cases st with
    | busy => exact h.elim
    | ready => exact fin (by simp) h
    | done => exact fin (by simp) h
    | exhausted => exact fin (by simp) h
  · exact h.elim
include hE in
theorem unwind_ok (on : On E r A B n0 F w0 ws Rs base f0 Φ) (hA : ∀ s m' R' w' v, A s m' → ExtN ws w' base m'.next Rs R' → Rel n0 F w0 R' m' w' → s.ok R' v → Φ v w') (hf : FrOk R f ⟨fn, tmps, todo, ds, mode, kind, ro⟩) (hmd : f.md ≠ .run) (hcs : All2 (FrOk R) cs frs) (hl : lastFn (f :: cs) = f0) (hR : Rel n0 F w0 R m w)
    (hX : ExtN ws w base m.next Rs R) (h : (unwindT E r f cs m).sat A B) : Leads E.P f0 ⟨fn, tmps, todo, ds, mode, kind, ro⟩ frs w Φ := by
  obtain ⟨h1, h2, h3, h4, h5, h6, h7⟩ := hf
  dsimp only at h1 h2 h3 h4 h5 h6 h7
  have hmode : mode ≠ .run := by
    cases hm : f.md with
    | run => exact (hmd hm).elim
    | ret => rw [hm] at h5; obtain rfl : mode = _ := h5; simp
    | pan l => rw [hm] at h5; obtain ⟨_, rfl, _⟩ := h5; simp
  unfold unwindT at h
  split at h
  · rename_i id dfs hdf
    rw [hdf] at h4
    cases ds with
    | nil => exact h4.elim
    | cons d ds =>
      obtain ⟨⟨g, hg, rfl⟩, h4⟩ := h4
      split at h
      · rename_i hx
        obtain ⟨g', o, k1, k2, k3, _, kdrop⟩ := hR.setX hx rfl
        rw [hg] at k1
        cases k1
        obtain rfl : o = _ := k3
        exact (on (fr' := ⟨fn, tmps, todo, ds, mode, kind, ro⟩) h (by rw [← hl]; exact lastFn_head (by rfl) cs) ⟨⟨h1, h2, h3, h4, h5, h6, h7⟩, hcs⟩ (kdrop _) (hX.trans (ExtN.same _ R (by simp)))).one fun dd => st_take hmode k2
      · exact h.elim
  · exact h.elim
  · rename_i hdf
    rw [hdf] at h4
    cases ds with
    | cons _ _ => exact h4.elim
    | nil =>
      split at h
      · exact h.elim
      · rename_i gf hgf
        have hp : E.P.funcs[fn]? = some gf := by rw [h1]; exact (hE.fns _ _ hgf).1
        split at h
        · exact h.elim
        · exact h.elim
        · rename_i hml
          rw [hml] at h5
          obtain rfl : mode = _ := h5
          split at h
          · rename_i q l hrnd hrs
            obtain ⟨hq, h⟩ := Tree.sat_needs h
            have hT : TmOk R f.tm ⟨tmps, []⟩ := h2
            obtain ⟨v, k1, k2⟩ := results_ok (fn := gf) hT hR hrs hq
            rw [hrnd] at h7
            obtain rfl : ro = _ := h7
            generalize hkk : f.kind = kk at h h6
            subst h6
            cases cs with
            | nil =>
              cases frs with
              | cons _ _ => exact hcs.elim
              | nil =>
                cases kind with
                | normal => exact fun dd => ⟨v, w, ⟨fn, tmps, todo, [], .returning, .normal, none⟩, hA _ m R w v h hX hR k1, Steps.refl _ _, h1.trans hl, rfl, rfl, rfl, gf, hp, k2⟩
                | _ => exact h.elim
            | cons c cs' =>
              cases frs with
              | nil => exact hcs.elim
              | cons fc fcs =>
                obtain ⟨hc, hcs⟩ := hcs
                cases kind with
                | normal => exact (on.finish h hl hc hcs k1 hR hX).one fun dd => st_back hp k2
                | _ => exact h.elim
          · exact h.elim
end
end Go.Proofs.YtjjeahnbppmigaaDoor
