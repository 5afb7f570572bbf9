/- What a run shows holds: of states, of calls. No condition. -/
import Derived.Test.YtjjeahnbppmigaaDoorK8e
import Derived.Test.YtjjeahnbppmigaaDoorK11
set_option linter.unusedVariables false
set_option linter.unusedSimpArgs false
namespace Go.Proofs.YtjjeahnbppmigaaDoor
set_option linter.unusedSectionVars false
variable [Gh]

theorem run_ok {E : Env} (hE : EnvOk E) : ∀ n, RunOk E (run E n)
  | 0 => fun _ _ _ _ _ _ _ _ _ _ _ _ _ _ _ h => h.elim
  | n + 1 => stepT_ok hE (run_ok hE n) (draw_ok hE (run_ok hE n))
def Good (P : Program) (A : SV → SMem → Prop) (base : Nat) (fs : List SFr) (m : SMem) : Prop :=
  ∀ (n0 : Nat) (F : Nat → Prop) (w0 ws w : World) (Rs R : Ren) (fr : Frame) (frs : List Frame), All2 (FrOk R) fs (fr :: frs) → Rel n0 F w0 R m w → ExtN ws w base m.next Rs R → (∀ i g, Rs i = some g → i < base) →
    Leads P (lastFn fs) fr frs w fun v w' => ∃ s m' R', A s m' ∧ ExtN ws w' base m'.next Rs R' ∧ Rel n0 F w0 R' m' w' ∧ s.ok R' v
theorem good_of {E : Env} {r : Nat → List SFr → SMem → Tree} (hr : RunOk E r) {A : SV → SMem → Prop} {base : Nat} {fs : List SFr} {m : SMem} (h : (r base fs m).sat A (Good E.P A base)) : Good E.P A base fs m :=
  fun n0 F w0 ws w Rs R fr frs hf hR hX hs => hr base fs m n0 F w0 ws w Rs R fr frs A (Good E.P A base) _ h hf hR hX hs
    (fun s m' R' _ _ h1 h2 h3 h4 => ⟨s, m', R', h1, h2, h3, h4⟩)
    (fun fs' m' R' w' fr' frs' h1 h2 h3 h4 h5 => by
      have := h1 n0 F w0 ws w' Rs R' fr' frs' h5 h4 h3 hs
      rw [h2] at this
      exact this)
theorem good_of_run {E : Env} (hE : EnvOk E) {A : SV → SMem → Prop} {base : Nat} {fs : List SFr} {m : SMem} (n : Nat) (h : (run E n base fs m).sat A (Good E.P A base)) : Good E.P A base fs m := good_of (run_ok hE n) h
omit [Gh] in
def Env.go (E : Env) : Env := { E with halt := fun _ _ _ => false }
theorem EnvOk.go {E : Env} (h : EnvOk E) : EnvOk E.go := ⟨h.fns, h.con, h.mixed⟩
theorem good_past {E : Env} (hE : EnvOk E) {A : SV → SMem → Prop} {base : Nat} {fs : List SFr} {m : SMem} (n : Nat) (h : (stepT E.go (run E n) base fs m).sat A (Good E.P A base)) : Good E.P A base fs m :=
  good_of (E := E.go) (r := stepT E.go (run E n)) (stepT_ok hE.go (r := run E n) (run_ok hE n) (draw_ok hE.go (run_ok hE n))) h
theorem Good.mono {P : Program} {A B : SV → SMem → Prop} {base : Nat} {fs : List SFr} {m : SMem} (h : Good P A base fs m) (hm : ∀ s m', A s m' → B s m') : Good P B base fs m :=
  fun n0 F w0 ws w Rs R fr frs h1 h2 h3 h4 => (h n0 F w0 ws w Rs R fr frs h1 h2 h3 h4).mono fun _ _ ⟨s, m', R', k1, k2⟩ => ⟨s, m', R', hm _ _ k1, k2⟩
theorem answers_of_good {P : Program} {A : SV → SMem → Prop} {g : FuncId} {fn : Func} {c : Code} {l : List SV} {m : SMem} (hg : P.funcs[g]? = some fn) (hc : fn.body = some c)
    (h : Good P A m.next [callFr g fn.ntmps l c] m) {n0 : Nat} {F : Nat → Prop} {w0 w : World} {R : Ren} {args : Array Value} (hl : All2 (SV.ok R) l args.toList) (hR : Rel n0 F w0 R m w) :
    Answers P g args w fun v w' => ∃ s m' R', A s m' ∧ ExtN w w' m.next m'.next R R' ∧ Rel n0 F w0 R' m' w' ∧ s.ok R' v :=
  Answers.of_leads hg hc (h n0 F w0 w w R R _ [] ⟨⟨rfl, TmOk.pad fn.ntmps hl, ⟨rfl, trivial⟩, trivial, rfl, rfl, rfl⟩, trivial⟩ hR (ExtN.refl _ _ _) hR.nx)

/-! A run of which every way ends with true, whatever is asked on the way is not needed. -/
omit [Gh] in
def isTrue : SV → Bool
  | .s (.c (.f (.bool (.l b)))) => b
  | _ => false
omit [Gh] in
def Tree.allTrue : Tree → Bool
  | .ret v _ => isTrue v
  | .br _ t e => t.allTrue && e.allTrue
  | _ => false
omit [Gh] in
theorem Tree.sat_allTrue {B : List SFr → SMem → Prop} : ∀ {t : Tree}, t.allTrue = true → t.sat (fun s _ => isTrue s = true) B
  | .ret _ _, h => h
  | .br _ _ _, h => by
    simp only [Tree.allTrue, Bool.and_eq_true] at h
    exact ⟨fun _ => Tree.sat_allTrue h.1, fun _ => Tree.sat_allTrue h.2⟩
omit [Gh] in
theorem isTrue_ok {R : Ren} {s : SV} {v : Value} (h : isTrue s = true) (hv : s.ok R v) : v = .bool true := by
  unfold isTrue at h
  split at h
  · subst h; exact hv
  · cases h
theorem answers_true {E : Env} (hE : EnvOk E) {g : FuncId} {fn : Func} {c : Code} {l : List SV} (n : Nat) (hg : E.P.funcs[g]? = some fn) (hc : fn.body = some c) (h : (run E n 0 [callFr g fn.ntmps l c] ⟨0, .nil, []⟩).allTrue = true)
    {n0 : Nat} {F : Nat → Prop} {w0 w : World} {R : Ren} {args : Array Value} (hl : All2 (SV.ok R) l args.toList) (hR : Rel n0 F w0 R ⟨0, .nil, []⟩ w) : Answers E.P g args w fun v w' => v = .bool true ∧ BelowF n0 F w0 w' :=
  (answers_of_good hg hc (good_of_run hE n (Tree.sat_allTrue h)) hl hR).mono fun _ _ ⟨_, _, _, h1, _, h3, h4⟩ => ⟨isTrue_ok h1 h4, h3.fr⟩
end Go.Proofs.YtjjeahnbppmigaaDoor
