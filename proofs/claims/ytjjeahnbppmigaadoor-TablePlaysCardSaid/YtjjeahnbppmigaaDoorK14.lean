/- Runs to propositions; loops' heads; contracts. No condition. -/
import Derived.Test.YtjjeahnbppmigaaDoorK13
set_option linter.unusedVariables false
set_option linter.unusedSimpArgs false
namespace Go.Proofs.YtjjeahnbppmigaaDoor
set_option linter.unusedSectionVars false
variable [Gh]
noncomputable section

omit [Gh] in
def headL : List SIt → List SIt
  | .it (.code (.loop b)) :: k => .it (.inLoop b) :: k
  | l => l
omit [Gh] in
def headF : List SFr → List SFr
  | ⟨fn, tm, td, dfs, .run, kind, rnd⟩ :: cs => ⟨fn, tm, headL td, dfs, .run, kind, rnd⟩ :: cs
  | l => l
omit [Gh] in
theorem Leads.loop {P : Program} {f0 fn : FuncId} {tmps : Array Value} {k : List Item} {ds : List Deferred} {kind : CallKind} {ro : Option Nat} {frs : List Frame} {w : World} {b : Code} {Φ : Value → World → Prop}
    (h : Leads P f0 ⟨fn, tmps, .inLoop b :: k, ds, .run, kind, ro⟩ frs w Φ) : Leads P f0 ⟨fn, tmps, .code (.loop b) :: k, ds, .run, kind, ro⟩ frs w Φ := by
  intro cs
  obtain ⟨v, w', e, h1, ⟨n, hn⟩, h3, h4⟩ := h cs
  refine ⟨v, w', e, h1, ?_, h3, h4⟩
  cases n with
  | zero =>
    simp only [runN, Stepped.next.injEq] at hn
    have hm := h4.1
    have e2 : (lone ⟨fn, tmps, .inLoop b :: k, ds, .run, kind, ro⟩ (frs ++ cs) w).gs[0]? = (lone e cs w').gs[0]? := by rw [hn]
    simp only [lone, List.getElem?_toArray, List.getElem?_cons_zero, Option.some.injEq, Goroutine.mk.injEq] at e2
    rw [← e2.1] at hm
    cases hm
  | succ n =>
    simp only [runN, st_inLoop] at hn
    exact .head st_loop ⟨n, hn⟩
theorem Good.head {P : Program} {A : SV → SMem → Prop} {base : Nat} {fs : List SFr} {m : SMem} (h : Good P A base (headF fs) m) : Good P A base fs m := by
  unfold headF at h
  split at h
  · rename_i fn tm td dfs kind rnd cs
    unfold headL at h
    split at h
    · rename_i b k
      intro n0 F w0 ws w Rs R fr frs hf hR hX hs
      obtain ⟨ffn, ftmps, ftodo, fds, fmode, fkind, fro⟩ := fr
      obtain ⟨⟨k1, k2, k3, k4, k5, k6, k7⟩, hcs⟩ := hf
      obtain rfl : fmode = .run := k5
      cases ftodo with
      | nil => exact k3.elim
      | cons y ys =>
        obtain ⟨k8, k9⟩ := k3
        obtain rfl : y = .code (.loop b) := k8
        have := h n0 F w0 ws w Rs R ⟨ffn, ftmps, .inLoop b :: ys, fds, .run, fkind, fro⟩ frs ⟨⟨k1, k2, ⟨rfl, k9⟩, k4, rfl, k6, k7⟩, hcs⟩ hR hX hs
        cases cs <;> exact this.loop
    · exact h
  · exact h
omit [Gh] in
def Tree.todo : Tree → List SIt
  | .stop (f :: _) _ => f.todo
  | .need _ t => t.todo
  | .br _ t e => match t.todo with
    | [] => e.todo
    | l => l
  | _ => []
omit [Gh] in
def isLoop : SIt → Bool
  | .it (.inLoop _) | .it (.code (.loop _)) => true
  | _ => false
omit [Gh] in
def regId : Code → Nat
  | .seq a _ => regId a
  | .region id _ _ => id
  | .block _ b => regId b
  | .scope b => regId b
  | .loop b => regId b
  | _ => 100000
omit [Gh] in
def loopId : SIt → Nat
  | .it (.inLoop b) | .it (.code (.loop b)) => regId b
  | _ => 100001
omit [Gh] in
def i64 (n : SI) : SV := .s (.c (.f (.int .i64 n)))
omit [Gh] in
def sB (b : SB) : SV := .s (.c (.f (.bool b)))
omit [Gh] in
def ptr (i : Nat) (o : SN) : SV := .s (.c (.f (.ptr i o)))
omit [Gh] in
def agg (cs : Array Value) : SV := .s (.agg (.op cs))
section
variable {E : Env} (hE : EnvOk E) {A A' : SV → SMem → Prop} {B : List SFr → SMem → Prop} {base : Nat} {fs : List SFr} {m : SMem} (n : Nat) {p : List Bool} {V : Prop}
include hE
theorem run_vc (e : (run E n base fs m).vc A B = V) (h : V) (hA : ∀ s m, A s m → A' s m) (hB : ∀ f m, B f m → Good E.P A' base f m) : Good E.P A' base fs m :=
  good_of_run hE n (Tree.sat_of_vc hA hB (e ▸ h))
theorem run_way (e : (run E n base fs m).follow A B p = V) (h : V) (hA : ∀ s m, A s m → A' s m) (hB : ∀ f m, B f m → Good E.P A' base f m) : Good E.P A' base fs m :=
  good_of_run hE n (Tree.sat_of_vc hA hB (Tree.vc_of_follow (e ▸ h : (run E n base fs m).follow A B p)))
theorem past_way (e : (stepT E.go (run E n) base fs m).follow A B p = V) (h : V) (hA : ∀ s m, A s m → A' s m) (hB : ∀ f m, B f m → Good E.P A' base f m) : Good E.P A' base fs m :=
  good_past hE n (Tree.sat_of_vc hA hB (Tree.vc_of_follow (e ▸ h : (stepT E.go (run E n) base fs m).follow A B p)))
theorem past_vc (e : (stepT E.go (run E n) base fs m).vc A B = V) (h : V) (hA : ∀ s m, A s m → A' s m) (hB : ∀ f m, B f m → Good E.P A' base f m) : Good E.P A' base fs m :=
  good_past hE n (Tree.sat_of_vc hA hB (e ▸ h))
end
section
variable {E : Env} (hE : EnvOk E) {A A' : SV → SMem → Prop} {B : List SFr → SMem → Prop} {base : Nat} {fs : List SFr} {m : SMem} (n : Nat) {V : Prop}
include hE
theorem past_T (e : (stepT E.go (run E n) base fs m).vcT A B = V) (h : V) (hA : ∀ s m, A s m → A' s m) (hB : ∀ f m, B f m → Good E.P A' base f m) : Good E.P A' base fs m :=
  good_past hE n (Tree.sat_of_vc hA hB (Tree.vc_of_vcT (e ▸ h : (stepT E.go (run E n) base fs m).vcT A B)))
theorem past_E (e : (stepT E.go (run E n) base fs m).vcE A B = V) (h : V) (hA : ∀ s m, A s m → A' s m) (hB : ∀ f m, B f m → Good E.P A' base f m) : Good E.P A' base fs m :=
  good_past hE n (Tree.sat_of_vc hA hB (Tree.vc_of_vcE (e ▸ h : (stepT E.go (run E n) base fs m).vcE A B)))
end
omit [Gh] in
theorem isTrue_eq {s : SV} (h : isTrue s = true) : s = sB (.l true) := by
  unfold isTrue at h
  split at h
  · subst h; rfl
  · cases h
theorem good_true {E : Env} (hE : EnvOk E) {base n : Nat} {fs : List SFr} {m : SMem} (h : (run E n base fs m).allTrue = true) : Good E.P (fun s _ => s = sB (.l true)) base fs m :=
  (good_of_run hE n (Tree.sat_allTrue h)).mono fun _ _ h => isTrue_eq h
def Con (E : Env) (g : FuncId) (l : List SV) (m : SMem) (t : Tree) : Prop :=
  ∀ A, t.sat A (fun _ _ => False) → ∃ fn, E.fn g = some fn ∧ fn.body.isSome = true ∧ ∀ (n0 : Nat) (F : Nat → Prop) (w0 w : World) (R : Ren) (args : Array Value), All2 (SV.ok R) l args.toList → Rel n0 F w0 R m w →
    Answers E.P g args w fun u w' => ∃ s m' R', A s m' ∧ ExtN w w' m.next m'.next R R' ∧ Rel n0 F w0 R' m' w' ∧ s.ok R' u
theorem EnvOk.with {E : Env} (hE : EnvOk E) (con : FuncId → List SV → SMem → Option Tree) (halt : Nat → FuncId → SIt → Bool) (h : ∀ g l m t, con g l m = some t → Con E g l m t) : EnvOk ⟨E.P, E.fn, con, halt⟩ :=
  ⟨hE.fns, fun f l m t A hc hs => h f l m t hc A hs, hE.mixed⟩
theorem Con.one {E : Env} (hE : EnvOk E) {g : FuncId} {l : List SV} {m m0 : SMem} {q : List Prop} {s0 : SV} {fn : Func} {c : Code} (h1 : E.fn g = some fn) (h2 : fn.body = some c)
    (h : (∀ p ∈ q, p) → Good E.P (fun s m' => s = s0 ∧ m' = m0) m.next [callFr g fn.ntmps l c] m) : Con E g l m (needs q (.ret s0 m0)) := by
  intro A hs
  obtain ⟨hq, hA⟩ := Tree.sat_needs hs
  refine ⟨fn, h1, by rw [h2]; rfl, fun n0 F w0 w R args hl hR => ?_⟩
  exact answers_of_good (hE.fns _ _ h1).1 h2 ((h hq).mono fun s m' ⟨e1, e2⟩ => by rw [e1, e2]; exact hA) hl hR
omit [Gh] in
def noIds (s : SV) : Bool := s.lt 0
omit [Gh] in
theorem ok_any {s : SV} {R R' : Ren} {v : Value} (h : noIds s = true) (hv : s.ok R v) : s.ok R' v := by
  have := SV.cut (n := 0) h hv
  exact SV.mono (fun i g hi => by unfold cutR at hi; simp at hi) this
omit [Gh] in
theorem ok_anys {R R' : Ren} : ∀ {l : List SV} {vs : List Value}, allB noIds l = true → All2 (SV.ok R) l vs → All2 (SV.ok R') l vs
  | [], [], _, _ => trivial
  | a :: l, v :: vs, h, hv => by
    simp only [allB_cons, Bool.and_eq_true] at h
    exact ⟨ok_any h.1 hv.1, ok_anys h.2 hv.2⟩
  | [], _ :: _, _, h => h.elim
  | _ :: _, [], _, h => h.elim
theorem Rel.none {n0 : Nat} {F : Nat → Prop} {w0 w : World} {R : Ren} {m : SMem} (hR : Rel n0 F w0 R m w) : Rel w.heap.size (fun _ => False) w (fun _ => none) ⟨0, .nil, []⟩ w := by
  refine ⟨fun i j g h b c h1 => (by cases h1), fun i g h => (by cases h), fun i g h => (by cases h), fun i b hb => ?_, Nat.le_refl _, BelowF.refl _ _ _, fun i x hx => (by cases hx), fun i j g h x y h1 => (by cases h1), fun g cs hg => ?_⟩
  · have hb : (Tr.nil : Tr SBlk).get i = some b := hb
    rw [Tr.get_nil] at hb
    cases hb
  · obtain ⟨g1, g2, cs', ty, fz, g3, g4⟩ := hR.gl g cs hg
    exact ⟨Nat.lt_of_lt_of_le g1 hR.base, fun h => h, cs', ty, fz, (hR.fr.block g g1 g2).trans g3, g4⟩
theorem Con.pure {E : Env} (hE : EnvOk E) {g : FuncId} {l : List SV} {m : SMem} {q : List Prop} {s0 : SV} {fn : Func} {c : Code} (h1 : E.fn g = some fn) (h2 : fn.body = some c) (hl0 : allB noIds l = true) (hs0 : noIds s0 = true)
    (h : (∀ p ∈ q, p) → Good E.P (fun s _ => s = s0) 0 [callFr g fn.ntmps l c] ⟨0, .nil, []⟩) : Con E g l m (needs q (.ret s0 m)) := by
  intro A hs
  obtain ⟨hq, hA⟩ := Tree.sat_needs hs
  refine ⟨fn, h1, by rw [h2]; rfl, fun n0 F w0 w R args hl hR => ?_⟩
  refine (answers_of_good (m := ⟨0, .nil, []⟩) (hE.fns _ _ h1).1 h2 (h hq) (ok_anys hl0 hl) hR.none).mono ?_
  rintro v w' ⟨s, m', R', rfl, hX, hR', hv⟩
  exact ⟨s, m, R, hA, ⟨fun _ _ h => h, fun _ _ h => .inl h, hX.2.2.1, Nat.le_refl _⟩, hR.step hR'.fr.to, ok_any hs0 hv⟩
end
end Go.Proofs.YtjjeahnbppmigaaDoor
