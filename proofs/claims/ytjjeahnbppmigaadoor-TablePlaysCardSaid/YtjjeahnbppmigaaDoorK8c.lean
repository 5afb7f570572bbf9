/- The symbolic machine's steps are the machine's: the proof. No condition. -/
import Derived.Test.YtjjeahnbppmigaaDoorK8m
set_option linter.unusedVariables false
set_option linter.unusedSimpArgs false
namespace Go.Proofs.YtjjeahnbppmigaaDoor
set_option linter.unusedSectionVars false
variable [Gh]

omit [Gh] in
theorem notDefer_xop {P : Program} {T : Tm} {m m' : SMem} {o : Op} {q : List Prop} {v : SV} (h : xopW P T m o = .ok q v m') : notDefer o = true := by
  cases o with
  | defer c => cases h
  | _ => rfl
omit [Gh] in
theorem notDefer_app {o : Op} (h : isApp o = true) : notDefer o = true := by
  cases o with
  | defer c => cases h
  | _ => rfl
omit [Gh] in
theorem notDefer_call {o : Op} (h : isCall o = true) : notDefer o = true := by
  cases o with
  | defer c => cases h
  | _ => rfl
def On (E : Env) (r : List SFr → SMem → Tree) (A : SV → SMem → Prop) (B : List SFr → SMem → Prop) (n0 : Nat) (F : Nat → Prop) (w0 ws : World) (Rs : Ren) (base : Nat) (f0 : FuncId) (Φ : Value → World → Prop) : Prop :=
  ∀ {fs' : List SFr} {m' : SMem} {w' : World} {R' : Ren} {fr' : Frame} {frs' : List Frame}, (r fs' m').sat A B → lastFn fs' = f0 → All2 (FrOk R') fs' (fr' :: frs') → Rel n0 F w0 R' m' w' → ExtN ws w' base m'.next Rs R' → Leads E.P f0 fr' frs' w' Φ
section
variable {E : Env} (hE : EnvOk E) {r : List SFr → SMem → Tree} {A : SV → SMem → Prop} {B : List SFr → SMem → Prop} {n0 : Nat} {F : Nat → Prop} {w0 ws : World} {Rs : Ren} {base : Nat} {f0 : FuncId} {Φ : Value → World → Prop}
theorem On.finish (on : On E r A B n0 F w0 ws Rs base f0 Φ) {f : SFr} {cs : List SFr} {v : SV} {u : Value} {m' : SMem} {w' : World} {R' : Ren} {fc : Frame} {fcs : List Frame} (h : (goF r (f.finish v) cs m').sat A B) (hl : lastFn (f :: cs) = f0) (hf : FrOk R' f fc) (hcs : All2 (FrOk R') cs fcs) (hv : v.ok R' u)
    (hR' : Rel n0 F w0 R' m' w') (hX' : ExtN ws w' base m'.next Rs R') : Leads E.P f0 (fc.finish u) fcs w' Φ := by
  unfold goF at h
  split at h
  · rename_i f' hf'
    obtain ⟨k1, k2⟩ := finish_ok hf' hf hv
    exact on h (by rw [lastFn_head k2, hl]) ⟨k1, hcs⟩ hR' hX'
  · exact h.elim
include hE in
theorem On.enter (on : On E r A B n0 F w0 ws Rs base f0 Φ) {g : FuncId} {l : List SV} {c : SFr} {cs : List SFr} {m1 : SMem} {w1 : World} {R1 : Ren} {fc : Frame} {fcs : List Frame} (h : (enterT E r g l c cs m1).sat A B) (hl : lastFn (c :: cs) = f0) (hc : FrOk R1 c fc) (hcs : All2 (FrOk R1) cs fcs)
    (hR1 : Rel n0 F w0 R1 m1 w1) (hX1 : ExtN ws w1 base m1.next Rs R1) :
    ∃ fn, E.fn g = some fn ∧ fn.body.isSome = true ∧ ∀ args : Array Value, All2 (SV.ok R1) l args.toList → Leads E.P f0 (Frame.enter E.P g args .normal) (fc :: fcs) w1 Φ := by
  unfold enterT at h
  split at h
  · rename_i t hcon
    obtain ⟨fn, hfn, hbd, hans⟩ := hE.con _ _ _ _ _ hcon (Tree.sat_graft h)
    refine ⟨fn, hfn, hbd, fun args hargs ds => ?_⟩
    obtain ⟨e, w2, fr2, ⟨u, rfl, s, m2, R2, k1, k2, k3, k4⟩, k5, _, k6⟩ := hans n0 F w0 w1 R1 args hargs hR1 (fc :: fcs ++ ds)
    obtain ⟨v', w3, e3, j1, j2, j3⟩ := on.finish k1 hl (FrOk.mono k2.1 hc) (FrsOk.mono k2.1 hcs) k4 k3 (hX1.trans k2) ds
    exact ⟨v', w3, e3, j1, (Steps.trans k5 (.one (step_leave_returned k6))).trans j2, j3⟩
  · split at h
    · rename_i fn hfn
      split at h
      · rename_i b hb
        refine ⟨fn, hfn, by rw [hb]; rfl, fun args hargs => ?_⟩
        rw [enter_eq (hE.fns _ _ hfn).1 hb]
        exact on h hl ⟨⟨rfl, TmOk.pad fn.ntmps hargs, ⟨rfl, trivial⟩, trivial, rfl, rfl, rfl⟩, hc, hcs⟩ hR1 hX1
      · exact h.elim
    · exact h.elim

variable {f : SFr} {cs : List SFr} {m : SMem} {w : World} {R : Ren} {fn : FuncId} {tmps : Array Value} {ds : List Deferred} {kind : CallKind} {ro : Option Nat} {frs : List Frame} {ys : List Item}
include hE in
set_option maxHeartbeats 1000000 in
theorem opT_ok (on : On E r A B n0 F w0 ws Rs base f0 Φ) (hs : ∀ i g, Rs i = some g → i < base) {ops : Array Oper} {i : Nat} {rest : List Nat} {o : Oper} {tag : Nat} (hmd : f.md = .run) (hf : FrOk R f ⟨fn, tmps, .inRegion ops (i :: rest) :: ys, ds, .run, kind, ro⟩) (hcs : All2 (FrOk R) cs frs) (hl : lastFn (f :: cs) = f0)
    (hR : Rel n0 F w0 R m w) (hX : ExtN ws w base m.next Rs R) (ho : ops[i]? = some o) (hw : Region.wanted o (yielded ops tmps) = true) (h : (opT E r base tag f cs o.op m).sat A B) : Leads E.P f0 ⟨fn, tmps, .inRegion ops (i :: rest) :: ys, ds, .run, kind, ro⟩ frs w Φ := by
  have hT : TmOk R f.tm ⟨tmps, ds⟩ := hf.tm
  have rec0 : ∀ {f1 : SFr} {v : SV} {u : Value} {m1 : SMem} {w1 : World} {R1 : Ren} {ds1 : List Deferred}, (goF r (f1.finish v) cs m1).sat A B → f1.fn = f.fn → FrOk R1 f1 ⟨fn, tmps, .inRegion ops (i :: rest) :: ys, ds1, .run, kind, ro⟩ → All2 (FrOk R1) cs frs → v.ok R1 u → Rel n0 F w0 R1 m1 w1 → ExtN ws w1 base m1.next Rs R1 →
      Leads E.P f0 (Frame.finish ⟨fn, tmps, .inRegion ops (i :: rest) :: ys, ds1, .run, kind, ro⟩ u) frs w1 Φ :=
    fun h hfn hf hcs hv hR hX => on.finish h (by rw [lastFn_head hfn, hl]) hf hcs hv hR hX
  generalize hop : o.op = op at h
  unfold opT at h
  split at h
  · rename_i hcall
    have hnd : ro = none ∨ notDefer o.op = true := .inr (by rw [hop]; exact notDefer_call hcall)
    split at h
    · rename_i id l hy'
      obtain ⟨g, args, hg, hargs, hrun⟩ := callY_ok (P := E.P) (w := w) (o := o) (by rw [hop]; exact hy') hT
      unfold roundT at h
      split at h
      · rename_i lfn tm ps as bd dl hx
        obtain ⟨g', ob, k1, k2, ⟨ltm, gd, k3, k4, rfl⟩, _⟩ := hR.xo id _ hx
        rw [hg] at k1
        cases k1
        split at h
        · rename_i T' hps
          obtain ⟨q1, q2⟩ := setPs_ok hps k4 hargs
          have hyr := run_yield (P := E.P) (args := args) k2 (by simpa using q1)
          rw [← hrun] at hyr
          rw [zip_foldl] at hyr
          exact (on (fr' := ⟨lfn, _, [.code as, .beginRound, .code bd], [], .run, .normal, some g.b⟩) (frs' := ⟨fn, tmps, .inRegion ops (i :: rest) :: ys, ds, .run, kind, ro⟩ :: frs) h hl ⟨⟨rfl, q2, ⟨rfl, rfl, rfl, trivial⟩, trivial, rfl, rfl, ⟨g, hg, rfl⟩⟩, hf, hcs⟩ hR hX).one fun dd => st_yield ho hw hnd hyr
        · exact h.elim
      · exact h.elim
    · split at h
      · rename_i g l hcl
        obtain ⟨gf, hgf, hbd, hgo⟩ := On.enter hE on h hl hf hcs hR hX
        obtain ⟨args, ha1, ha2⟩ := callS_ok (w := w) (o := o) (by rw [hop]; exact hcl) hT (hE.fns _ _ hgf).1 (hE.fns _ _ hgf).2 hbd
        exact (hgo args ha1).one fun dd => st_enter ho hw hnd ha2
      · exact h.elim
  · split at h
    · rename_i happ
      have hnd : ro = none ∨ notDefer o.op = true := .inr (by rw [hop]; exact notDefer_app happ)
      obtain ⟨T0, hT0, h⟩ := splitT_sat h
      replace hf : FrOk R { f with tm := T0 } _ := ⟨hf.fn, hT0.ok hf.tm, hf.todo, hf.dfs, hf.md, hf.kind, hf.rnd⟩
      replace hT := hT0.ok hT
      split at h
      · rename_i q s m' hx
        obtain ⟨hq, h⟩ := Tree.sat_needs h
        obtain ⟨R', w', v, k1, k2, k3, k4, k5⟩ := xapp_ok (o := o) (by rw [hop]; exact hx) hq hT hR
        replace k1 := k1.toA
        have hX' : ExtN ws w' base m'.next Rs R' := by
          refine ⟨hX.1.trans k1.1, fun i g hi => ?_, Nat.le_trans hX.2.2.1 k1.2.2, by rw [k2]; have := hX.2.2.2; omega⟩
          rcases k1.2.1 i g hi with h1 | ⟨h1, h2 | ⟨j, h2, h3⟩⟩
          · exact hX.2.1 i g h1
          · exact .inr ⟨Nat.le_trans hX.2.2.1 h2, Nat.le_trans hX.2.2.2 h1⟩
          · rcases hX.2.1 j g h3 with h4 | ⟨h4, _⟩
            · have := hs j g h4; omega
            · exact .inr ⟨h4, Nat.le_trans hX.2.2.2 h1⟩
        exact (rec0 (u := v) h rfl (FrOk.mono k1.1 hf) (FrsOk.mono k1.1 hcs) k4 k3 hX').one fun dd => st_value ho hw hnd k5
      · exact h.elim
    · split at h
      · rename_i q s m' hx
        have hnd : ro = none ∨ notDefer o.op = true := .inr (by rw [hop]; exact notDefer_xop hx)
        obtain ⟨hq, h⟩ := Tree.sat_needs h
        obtain ⟨R', w', v, k1, k2, k3, k4⟩ := xopW_ok (o := o) (by rw [hop]; exact hx) hq hT hR
        exact (rec0 (u := v) h rfl (FrOk.mono k1.1 hf) (FrsOk.mono k1.1 hcs) k3 k2 (hX.trans k1)).one fun dd => st_value ho hw hnd k4
      · exact h.elim
end
end Go.Proofs.YtjjeahnbppmigaaDoor
