/- The symbolic machine's steps are the machine's. No condition. -/
import Derived.Test.YtdbhbpkdefbibaaK7b
namespace Go.Proofs.Ytdbhbpkdefbibaa

def bf (f : FuncId) : Frame := { (default : Frame) with fn := f, kind := .normal }
/-- From here on the function comes to its end, and answers so. -/
def Leads (P : Program) (f : FuncId) (a : Act) (k : List Item) (w : World) (Φ : Value → World → Prop) : Prop :=
  ∀ cs, ∃ v w' fr, Φ v w' ∧ Steps P (lone ((bf f).at a k) cs w) (lone fr cs w') ∧ fr.fn = f ∧ fr.leaving P w' (.returned v)
/-- The function is called, and answers so. -/
def Answers (P : Program) (f : FuncId) (args : Array Value) (w : World) (Φ : Value → World → Prop) : Prop :=
  Calls P f args w fun e w' => ∃ v, e = .returned v ∧ Φ v w'

section
variable {P : Program} {f : FuncId} {a : Act} {k : List Item} {w : World} {Φ : Value → World → Prop}
theorem Leads.step {a' : Act} {k' : List Item} {w' : World} (h : Leads P f a' k' w' Φ) (hs : ∀ cs, Steps P (lone ((bf f).at a k) cs w) (lone ((bf f).at a' k') cs w')) : Leads P f a k w Φ :=
  fun cs => let ⟨v, w2, fr, h1, h2, h3⟩ := h cs; ⟨v, w2, fr, h1, (hs cs).trans h2, h3⟩
theorem Leads.mono {Ψ : Value → World → Prop} (h : Leads P f a k w Φ) (hm : ∀ v w', Φ v w' → Ψ v w') : Leads P f a k w Ψ :=
  fun cs => let ⟨v, w2, fr, h1, h2⟩ := h cs; ⟨v, w2, fr, hm _ _ h1, h2⟩
theorem Answers.mono {args : Array Value} {Ψ : Value → World → Prop} (h : Answers P f args w Φ) (hm : ∀ v w', Φ v w' → Ψ v w') : Answers P f args w Ψ :=
  Calls.mono h fun _ _ ⟨v, h1, h2⟩ => ⟨v, h1, hm _ _ h2⟩
theorem Answers.of_leads {fn : Func} {c : Code} {args : Array Value} (hf : P.funcs[f]? = some fn) (hb : fn.body = some c)
    (h : Leads P f { tmps := args ++ Array.replicate (fn.ntmps - args.size) undef, defers := [] } [.code c] w Φ) : Answers P f args w Φ := by
  intro cs
  have henter : Frame.enter P f args .normal = (bf f).at { tmps := args ++ Array.replicate (fn.ntmps - args.size) undef, defers := [] } [.code c] := by
    simp [Frame.enter, Frame.at, hf, hb, bf]
  obtain ⟨v, w', fr, h1, h2, h3, h4⟩ := h cs
  rw [← henter] at h2
  exact ⟨.returned v, w', fr, ⟨v, rfl, h1⟩, h2, h3, h4⟩
theorem Leads.ret {fn : Func} {v : Value} (hf : P.funcs[f]? = some fn) (hd : a.defers = []) (hr : (results fn a.tmps).run P w = .ok v w) (hv : Φ v w) (hk : k = [] ∨ ∃ k', k = .code .ret :: k') : Leads P f a k w Φ := by
  intro cs
  rcases hk with rfl | ⟨k', rfl⟩
  · exact ⟨v, w, _, hv, .one step_end, rfl, rfl, hd, rfl, fn, hf, hr⟩
  · exact ⟨v, w, _, hv, .one step_ret, rfl, rfl, hd, rfl, fn, hf, hr⟩

variable {b : Frame} {cs : List Frame} {ops : Array Oper} {i : Nat} {rest : List Nat} {o : Oper} {w' : World}
theorem step_op {v : Value} (ho : ops[i]? = some o) (hw : Region.wanted o (yielded ops a.tmps) = true) (h : Ends P a o w w' v) :
    step P (lone (b.at a (.inRegion ops (i :: rest) :: k)) cs w) = .next (lone (b.at (a.put o.dst v) (.inRegion ops rest :: k)) cs w') := by
  have hg := stepG_op (P := P) (b := b) (k := k) (cs := cs) (w := w) (rest := rest) ho hw
  have hfin : ∀ v, (b.at a (.inRegion ops (i :: rest) :: k)).finish v = b.at (a.put o.dst v) (.inRegion ops rest :: k) := by
    intro v; rw [Frame.finish_at, ho]; rfl
  refine step_lone_go ?_
  rw [hg, ← hfin]
  rcases h with h | ⟨h, rfl⟩ <;> simp [stepG.apply, h]
theorem step_pass (ho : ops[i]? = some o) (hw : Region.wanted o (yielded ops a.tmps) = false) :
    step P (lone (b.at a (.inRegion ops (i :: rest) :: k)) cs w) = .next (lone (b.at (a.put o.dst undef) (.inRegion ops rest :: k)) cs w) := by
  have hs := step_op_skip (P := P) (b := b) (a := a) (k := k) (cs := cs) (w := w) (ops := ops) (i := i) (rest := rest) (by simp [ho, hw])
  simpa [ho] using hs
theorem steps_call {g : FuncId} {args : Array Value} {w1 : World} (ho : ops[i]? = some o) (hw : Region.wanted o (yielded ops a.tmps) = true) (h : (execOp a.eval o).run P w = .ok (.enter g args) w1)
    (hc : Answers P g args w1 Φ) : ∃ v w2, Φ v w2 ∧ Steps P (lone (b.at a (.inRegion ops (i :: rest) :: k)) cs w) (lone (b.at (a.put o.dst v) (.inRegion ops rest :: k)) cs w2) := by
  have hg := stepG_op (P := P) (b := b) (k := k) (cs := cs) (w := w) (rest := rest) ho hw
  have hfin : ∀ v, (b.at a (.inRegion ops (i :: rest) :: k)).finish v = b.at (a.put o.dst v) (.inRegion ops rest :: k) := by
    intro v; rw [Frame.finish_at, ho]; rfl
  obtain ⟨e, w'', fr, ⟨v, rfl, hv⟩, hsteps, _, hleave⟩ := hc (b.at a (.inRegion ops (i :: rest) :: k) :: cs)
  have henter : step P (lone (b.at a (.inRegion ops (i :: rest) :: k)) cs w) = .next (lone (Frame.enter P g args .normal) (b.at a (.inRegion ops (i :: rest) :: k) :: cs) w1) :=
    step_lone_go (by rw [hg]; simp [stepG.apply, h, Frame.at])
  refine ⟨v, w'', hv, .head henter (Steps.trans hsteps (.one ?_))⟩
  rw [← hfin]
  exact step_leave_returned hleave
end

def Tree.sat (A : SV → SMem → Prop) (B : SFr → SMem → Prop) : Tree → Prop
  | .ret v m => A v m
  | .br b t e => (b = true → t.sat A B) ∧ (b = false → e.sat A B)
  | .need q t => (∀ p ∈ q, p) ∧ t.sat A B
  | .stop f m => B f m
  | .fail _ => False
/-- What the environment says is so. -/
structure EnvOk (E : Env) : Prop where
  fns : ∀ f g, E.fn f = some g → E.P.funcs[f]? = some g ∧ (g.name == "runtime.NumGoroutine") = false
  con : ∀ f l m t A, E.con f l m = some t → t.sat A (fun _ _ => False) → ∃ g, E.fn f = some g ∧ g.body.isSome = true ∧ ∀ (n0 : Nat) (F : Nat → Prop) (w0 w : World) (R : Ren) (args : Array Value), All2 (SV.ok R) l args.toList → Rel n0 F w0 R m w →
    Answers E.P f args w fun u w' => ∃ s m' R', A s m' ∧ ExtN w w' m.next m'.next R R' ∧ Rel n0 F w0 R' m' w' ∧ s.ok R' u
  mixed : E.P.follows .mixedOrders = true

theorem Tree.sat_graft {A : SV → SMem → Prop} {B : SFr → SMem → Prop} {k : SV → SMem → Tree} : ∀ {t : Tree}, (t.graft k).sat A B → t.sat (fun v m => (k v m).sat A B) (fun _ _ => False)
  | .ret _ _, h => h
  | .br _ _ _, h => ⟨fun e => Tree.sat_graft (h.1 e), fun e => Tree.sat_graft (h.2 e)⟩
  | .need _ _, h => ⟨h.1, Tree.sat_graft h.2⟩
  | .stop _ _, h => h.elim
  | .fail _, h => h.elim
theorem Tree.sat_needs {A : SV → SMem → Prop} {B : SFr → SMem → Prop} {q : List Prop} {t : Tree} (h : (needs q t).sat A B) : (∀ p ∈ q, p) ∧ t.sat A B := by
  cases q with
  | nil => exact ⟨fun _ hp => (by cases hp), h⟩
  | cons p q => exact h
theorem Tree.sat_ite {A : SV → SMem → Prop} {B : SFr → SMem → Prop} {b : SB} {t e : Tree} (h : (ite' b t e).sat A B) : (b.den = true → t.sat A B) ∧ (b.den = false → e.sat A B) := by
  cases b with
  | l b => cases b <;> exact ⟨fun x => (by first | exact h | cases x), fun x => (by first | exact h | cases x)⟩
  | o b => exact h

section
variable {P : Program} {n0 : Nat} {F : Nat → Prop} {w0 w : World} {R : Ren} {m : SMem} {T : Tm} {a : Act}
theorem callS_ok {o : Oper} {g : FuncId} {l : List SV} {fn : Func} (h : callS T o.op = some (g, l)) (hT : TmOk R T a) (hf : P.funcs[g]? = some fn) (hn : (fn.name == "runtime.NumGoroutine") = false) (hb : fn.body.isSome = true) :
    ∃ args : Array Value, All2 (SV.ok R) l args.toList ∧ (execOp a.eval o).run P w = .ok (.enter g args) w := by
  generalize ho : o.op = op at h
  unfold callS at h
  split at h
  · rename_i f args ts
    split at h
    · rename_i g' x y l' hf' hl
      cases h
      obtain ⟨fx, fy, e, h1, h2⟩ := ev_ok hT hf'
      have h3 := evs_ok hT hl
      refine ⟨fx ++ args.map a.eval ++ fy, ?_, ?_⟩
      · simp only [Array.toList_append, Array.toList_map]
        exact All2.append (All2.append (All2.map h1) h3) (All2.map h2)
      · obtain ⟨c, hc⟩ := Option.isSome_iff_exists.1 hb
        have hn' : fn.name ≠ "runtime.NumGoroutine" := by simpa using hn
        simp [execOp, ho, resolve, e, Deferred.ofValue, invoke, callFunc, hf, hc, hn', program, Sem.run]
    · cases h
  · cases h

theorem want_ok {ops : Array Oper} {o : Oper} {b : SB} (h : wantS T ops.toList o = some b) (hT : TmOk R T a) : Region.wanted o (yielded ops a.tmps) = b.den := by
  unfold wantS at h
  unfold Region.wanted
  split at h
  · rename_i hg
    cases h
    simp [hg, SB.den]
  · rename_i j want hg
    simp only [hg]
    split at h
    · rename_i p hp
      rw [nth_eq, Array.getElem?_toList] at hp
      split at h
      · rename_i d hd
        have hy : yielded ops a.tmps j = match a.tmps[d]? with | some (.bool b) => some b | _ => none := by
          unfold yielded
          rw [hp]
          simp only [Option.bind_some, hd]
          rfl
        rw [hy]
        split at h
        · rename_i c hc
          cases h
          obtain ⟨v, hv, hr⟩ := hT.nth hc
          have e : v = .bool c.den := hr
          rw [Array.getElem?_toList] at hv
          rw [hv, e, beq_den]
          cases hc : c.den <;> cases want <;> simp [SB.den]
        · rename_i l hc
          cases h
          obtain ⟨v, hv, hr⟩ := hT.nth hc
          obtain ⟨vs, e, _⟩ := hr
          rw [Array.getElem?_toList] at hv
          rw [hv, e]
          simp [SB.den]
        · cases h
      · rename_i hd
        cases h
        have hy : yielded ops a.tmps j = none := by simp [yielded, hp, hd]
        rw [hy]; simp [SB.den]
    · rename_i hp
      cases h
      rw [nth_eq, Array.getElem?_toList] at hp
      have hy : yielded ops a.tmps j = none := by simp [yielded, hp]
      rw [hy]; simp [SB.den]

def rvar (tmps : Array Value) : ResultVar → Sem Value
  | .tmp t => pure (tmps.getD t undef)
  | .cell a t => do loadVar t (← asAddr (tmps.getD a undef))
theorem resS_ok (hT : TmOk R T a) (hR : Rel n0 F w0 R m w) : ∀ {l : List ResultVar} {q : List Prop} {s : List S1}, resS P T m l = some (q, s) → (∀ p ∈ q, p) →
    ∃ vs : List Value, All2 (S1.ok R) s vs ∧ (l.mapM (rvar a.tmps)).run P w = .ok vs w
  | [], q, s, h, _ => by
    simp only [resS, Option.some.injEq, Prod.mk.injEq] at h
    obtain ⟨rfl, rfl⟩ := h
    exact ⟨[], trivial, by simp⟩
  | .tmp t :: l, q, s, h, hq => by
    simp only [resS] at h
    split at h
    · rename_i x q' l' hx hl
      cases h
      obtain ⟨vs, h1, h2⟩ := resS_ok hT hR hl hq
      obtain ⟨v, hv, hr⟩ := hT.nth hx
      refine ⟨v :: vs, ⟨hr, h1⟩, ?_⟩
      rw [Array.getElem?_toList] at hv
      have e : (rvar a.tmps (.tmp t)).run P w = .ok v w := by simp [rvar, hv]
      simp [List.mapM_cons, e, h2]
    · cases h
  | .cell x t :: l, q, s, h, hq => by
    simp only [resS] at h
    split at h
    · rename_i y q' l' hx hl
      split at h
      · rename_i q1 z m1 hld
        cases h
        obtain ⟨vs, h1, h2⟩ := resS_ok hT hR hl fun p hp => hq p (List.mem_append_right _ hp)
        obtain ⟨v, hv, hr⟩ := hT.nth hx
        obtain ⟨_, u, k1, _, g, k, k3, k4⟩ := loadS_ok hld (fun p hp => hq p (List.mem_append_left _ hp)) hr hR
        refine ⟨u :: vs, ⟨k1, h1⟩, ?_⟩
        rw [Array.getElem?_toList] at hv
        have e : (rvar a.tmps (.cell x t)).run P w = .ok u w := by simp [rvar, hv, k3, asAddr, k4]
        simp [List.mapM_cons, e, h2]
      · cases h
    · cases h
theorem results_ok {fn : Func} (hT : TmOk R T a) (hR : Rel n0 F w0 R m w) {q : List Prop} {s : List S1} (h : resS P T m fn.results.toList = some (q, s)) (hq : ∀ p ∈ q, p) :
    ∃ v, (oneOf s).ok R v ∧ (results fn a.tmps).run P w = .ok v w := by
  obtain ⟨vs, h1, h2⟩ := resS_ok hT hR h hq
  have hr : (results fn a.tmps).run P w = .ok (if h : vs.toArray.size = 1 then vs.toArray[0] else .tuple vs.toArray) w := by
    have e : results fn a.tmps = (do
        let vs ← fn.results.mapM (rvar a.tmps)
        pure (if h : vs.size = 1 then vs[0] else .tuple vs)) := by
      unfold results
      congr 2
    rw [e, Array.mapM_eq_mapM_toList]
    simp [h2]
  refine ⟨_, ?_, hr⟩
  match s, vs, h1 with
  | [x], [v], h1 => exact h1.1
  | [], [], _ => exact ⟨#[], by simp, trivial⟩
  | x :: y :: l, u :: v :: vs, h1 => exact ⟨(u :: v :: vs).toArray, by simp, h1⟩
  | [], _ :: _, h1 => exact h1.elim
  | _ :: _, [], h1 => exact h1.elim
  | [_], _ :: _ :: _, h1 => exact h1.2.elim
  | _ :: _ :: _, [_], h1 => exact h1.2.elim

theorem dst_defers (a : Act) (d : Option Tmp) (v : Value) : (a.put d v).defers = a.defers := by cases d <;> rfl
end

theorem All2.set_right {α β : Type} {r : α → β → Prop} {n : Nat} {a : α} {b : β} : ∀ {l : List α} {m : List β}, All2 r l m → m[n]? = some b → r a b → All2 r (l.set n a) m := by
  induction n with
  | zero =>
    intro l m h hb hr
    cases l with
    | nil => exact h
    | cons x l => cases m with
      | nil => exact h.elim
      | cons y m =>
        simp only [List.getElem?_cons_zero, Option.some.injEq] at hb
        subst hb
        exact ⟨hr, h.2⟩
  | succ n ih =>
    intro l m h hb hr
    cases l with
    | nil => exact h
    | cons x l => cases m with
      | nil => exact h.elim
      | cons y m => exact ⟨h.1, ih h.2 (by simpa using hb) hr⟩
theorem know_ok {R : Ren} {T : Tm} {a : Act} {d : Nat} {b : Bool} (hT : TmOk R T a) (h : ∀ c, nth T d = some (some (.s (.c (.f (.bool c))))) → c.den = b) : TmOk R (knowS T d b) a := by
  unfold knowS
  split
  · rename_i c hc
    obtain ⟨v, hv, hr⟩ := hT.nth hc
    have e : v = .bool c := hr
    have e2 : c = b := h (.o c) hc
    unfold TmOk
    rw [setN_eq]
    refine All2.set_right hT hv ?_
    rw [e, e2]
    rfl
  · exact hT
theorem knowG_ok {R : Ren} {T : Tm} {a : Act} {ops : List Oper} {o : Oper} {b : SB} {yes : Bool} (hT : TmOk R T a) (hw : wantS T ops o = some b) (h : b.den = yes) : TmOk R (knowG T ops o yes) a := by
  unfold knowG
  unfold wantS at hw
  split
  · exact hT
  · rename_i j want hg
    rw [hg] at hw
    dsimp only at hw
    split
    · rename_i p hp
      rw [hp] at hw
      dsimp only at hw
      split
      · rename_i d hd
        rw [hd] at hw
        dsimp only at hw
        refine know_ok hT fun c hc => ?_
        rw [hc] at hw
        simp only [Option.some.injEq] at hw
        rw [← h, ← hw, beq_den]
        cases want <;> cases hcd : c.den <;> simp [SB.den]
      · exact hT
    · exact hT
theorem knowC_ok {R : Ren} {T : Tm} {a : Act} {c : Operand} {t : SB} {b : Bool} (hT : TmOk R T a) (hc : ev T c = some (.s (.c (.f (.bool t))))) (h : t.den = b) : TmOk R (knowC T c b) a := by
  unfold knowC
  split
  · rename_i d
    refine know_ok hT fun c' hc' => ?_
    simp only [ev, hc', Option.some.injEq, SV.s.injEq, S1.c.injEq, SC.f.injEq, SF.bool.injEq] at hc
    rw [hc]; exact h
  · exact hT

/-- What a machine shows holds. -/
def RunOk (E : Env) (r : SFr → SMem → Tree) : Prop :=
  ∀ (f : SFr) (m : SMem) (n0 : Nat) (F : Nat → Prop) (w0 ws w : World) (Rs R : Ren) (a : Act) (A : SV → SMem → Prop) (B : SFr → SMem → Prop) (Φ : Value → World → Prop),
    (r f m).sat A B → TmOk R f.tm a → a.defers = [] → Rel n0 F w0 R m w → ExtN ws w f.base m.next Rs R → (∀ i g, Rs i = some g → i < f.base) →
    (∀ s m' R' w' v, A s m' → ExtN ws w' f.base m'.next Rs R' → Rel n0 F w0 R' m' w' → s.ok R' v → Φ v w') →
    (∀ f' m' R' w' a', B f' m' → f'.fn = f.fn → f'.base = f.base → ExtN ws w' f.base m'.next Rs R' → Rel n0 F w0 R' m' w' → TmOk R' f'.tm a' → a'.defers = [] → Leads E.P f.fn a' f'.todo w' Φ) →
    Leads E.P f.fn a f.todo w Φ

section
variable {E : Env} (hE : EnvOk E) {r : SFr → SMem → Tree} (hr : RunOk E r)
include hE hr
/-- A call of a function that is run. -/
theorem inline_ok {g : FuncId} {fn : Func} {c : Code} {l : List SV} {args : Array Value} {m : SMem} {n0 : Nat} {F : Nat → Prop} {w0 w : World} {R : Ren} {A : SV → SMem → Prop} (hg : E.fn g = some fn) (hc : fn.body = some c)
    (hl : All2 (SV.ok R) l args.toList) (hR : Rel n0 F w0 R m w) (h : (r ⟨g, padN fn.ntmps (l.map some), [.code c], m.next⟩ m).sat A (fun _ _ => False)) :
    Answers E.P g args w fun v w' => ∃ s m' R', A s m' ∧ ExtN w w' m.next m'.next R R' ∧ Rel n0 F w0 R' m' w' ∧ s.ok R' v := by
  refine Answers.of_leads (hE.fns _ _ hg).1 hc ?_
  exact hr ⟨g, padN fn.ntmps (l.map some), [.code c], m.next⟩ m n0 F w0 w w R R _ A (fun _ _ => False) _ h (TmOk.pad fn.ntmps hl) rfl hR (ExtN.refl _ _ _) hR.nx
    (fun s m' R' w' v h1 h2 h3 h4 => ⟨s, m', R', h1, h2, h3, h4⟩) (fun _ _ _ _ _ hf => hf.elim)
end

theorem step_scope {P : Program} {b : Frame} {a : Act} {k : List Item} {cs : List Frame} {w : World} {c : Code} : step P (lone (b.at a (.code (.scope c) :: k)) cs w) = .next (lone (b.at a (.code c :: .inScope c :: k)) cs w) :=
  step_lone_go (by simp [stepG, stepG.exec, Frame.at])
theorem step_inScope {P : Program} {b : Frame} {a : Act} {k : List Item} {cs : List Frame} {w : World} {c : Code} : step P (lone (b.at a (.inScope c :: k)) cs w) = .next (lone (b.at a k) cs w) :=
  step_lone_go (by simp [stepG, stepG.exec, Frame.at])

/-- What a region that draws its order does. -/
def DrawOk (E : Env) (r : SFr → SMem → Tree) : Prop :=
  ∀ (id : Nat) (ops : Array Oper) (T : Tm) (m : SMem) (n0 : Nat) (F : Nat → Prop) (w0 w : World) (R : Ren) (a : Act) (q : List Prop) (ds : List DRec) (T' : Tm) (m' : SMem),
    drawS E r ops ops.toList T m = some (q, ds, T', m') → orderS [] [] 0 ops.toList ds = true → (∀ p ∈ q, p) → TmOk R T a → a.defers = [] → Rel n0 F w0 R m w →
    ∀ (b : Frame) (k : List Item) (cs : List Frame), ∃ a' w' R', ExtN w w' m.next m'.next R R' ∧ TmOk R' T' a' ∧ a'.defers = [] ∧ Rel n0 F w0 R' m' w' ∧
      Steps E.P (lone (b.at a (.code (.region id ops true) :: k)) cs w) (lone (b.at a' k) cs w')

theorem memB_iff : ∀ {l : List Nat} {n : Nat}, memB l n = true ↔ n ∈ l
  | [], n => by simp [memB]
  | a :: l, n => by
    simp only [memB, Bool.or_eq_true, memB_iff (l := l), List.mem_cons, Nat.beq_eq]
    constructor
    · rintro (h | h)
      · exact .inl h.symm
      · exact .inr h
    · rintro (h | h)
      · exact .inl h.symm
      · exact .inr h
theorem getB_compact : ∀ {l : List SBlk} {seen : List Nat} {i : Nat} {b : SBlk}, getB (compact l seen) i = some b → i ∉ seen ∧ getB l i = some b
  | [], _, _, _, h => by cases h
  | c :: l, seen, i, b, h => by
    simp only [compact] at h
    split at h
    · rename_i hc
      obtain ⟨h1, h2⟩ := getB_compact h
      refine ⟨h1, ?_⟩
      have : ¬ Nat.beq c.id i = true := by
        intro e
        have e' : c.id = i := by simpa using e
        exact h1 (e' ▸ memB_iff.1 hc)
      simp only [getB]
      rw [if_neg this]
      exact h2
    · rename_i hc
      simp only [getB] at h ⊢
      split at h
      · rename_i e
        have e' : c.id = i := by simpa using e
        refine ⟨fun hs => hc (memB_iff.2 (e' ▸ hs)), ?_⟩
        rw [if_pos e]
        exact h
      · rename_i e
        obtain ⟨h1, h2⟩ := getB_compact h
        rw [if_neg e]
        exact ⟨fun hs => h1 (List.mem_cons_of_mem _ hs), h2⟩
theorem Rel.compact {n0 : Nat} {F : Nat → Prop} {w0 w : World} {R : Ren} {m : SMem} (h : Rel n0 F w0 R m w) : Rel n0 F w0 R ⟨m.next, Go.Proofs.Ytdbhbpkdefbibaa.compact m.bl []⟩ w :=
  { inj := fun i j g k b c h1 h2 h3 h4 h5 => h.inj i j g k b c h1 h2 h3 (getB_compact h4).2 (getB_compact h5).2, lt := h.lt, nx := h.nx, blk := fun i b hb => h.blk i b (getB_compact hb).2, base := h.base, fr := h.fr }

section
variable {E : Env} (hE : EnvOk E) {r : SFr → SMem → Tree} (hr : RunOk E r) (hd : DrawOk E r)
include hE hr hd
theorem stepT_ok : RunOk E fun f m => stepT E r f m f.todo := by
  intro f m n0 F w0 ws w Rs R a A B Φ h hT hdf hR hX hs hA hB
  replace h : (stepT E r f m f.todo).sat A B := h
  have leave : (leaveT E f m).sat A B → (f.todo = [] ∨ ∃ k', f.todo = .code .ret :: k') → Leads E.P f.fn a f.todo w Φ := by
    intro h hk
    unfold leaveT at h
    split at h
    · rename_i g hg
      split at h
      · rename_i q l hrs
        obtain ⟨hq, h⟩ := Tree.sat_needs h
        obtain ⟨v, h1, h2⟩ := results_ok hT hR hrs hq
        exact Leads.ret (hE.fns _ _ hg).1 hdf h2 (hA _ _ R w v h hX hR h1) hk
      · exact h.elim
    · exact h.elim
  have to : ∀ {k : List Item}, (r ⟨f.fn, f.tm, k, f.base⟩ m).sat A B → Leads E.P f.fn a k w Φ := fun {k} h =>
    hr ⟨f.fn, f.tm, k, f.base⟩ m n0 F w0 ws w Rs R a A B Φ h hT hdf hR hX hs hA hB
  have on : ∀ {k : List Item} {T' : Tm} {m' : SMem} {a' : Act} {w' : World} {R' : Ren}, (r ⟨f.fn, T', k, f.base⟩ m').sat A B → TmOk R' T' a' → a'.defers = [] → Rel n0 F w0 R' m' w' → ExtN w w' m.next m'.next R R' →
      Leads E.P f.fn a' k w' Φ := by
    intro k T' m' a' w' R' h hT' hd' hR' hx
    exact hr ⟨f.fn, T', k, f.base⟩ m' n0 F w0 ws w' Rs R' a' A B Φ h hT' hd' hR' (hX.trans hx) hs hA hB
  generalize hk : f.todo = items at h
  cases items with
  | nil => exact hk ▸ leave h (.inl hk)
  | cons x k =>
    simp only [stepT] at h
    split at h
    · rw [← hk]
      exact hB f m R w a h rfl rfl hX hR hT hdf
    · split at h
      · exact hk ▸ leave h (.inr ⟨k, hk⟩)
      · exact (to h).step fun cs => .one step_skip
      · exact (to h).step fun cs => .one step_label
      · exact (to h).step fun cs => .one step_inBlock
      · exact (to h).step fun cs => .one step_inScope
      · exact (to h).step fun cs => .one step_seq
      · rename_i c x y _
        split at h
        · rename_i t ht
          have hc := ev_ok hT ht
          obtain ⟨h1, h2⟩ := Tree.sat_ite h
          have hc' : a.eval c = .bool t.den := hc
          cases e : t.den with
          | true => exact (on (h1 e) (knowC_ok hT ht e) hdf hR (ExtN.refl _ _ R)).step fun cs => .one (step_cond (t := true) (by rw [hc', e]))
          | false => exact (on (h2 e) (knowC_ok hT ht e) hdf hR (ExtN.refl _ _ R)).step fun cs => .one (step_cond (t := false) (by rw [hc', e]))
        · exact h.elim
      · exact (to h).step fun cs => .one step_block
      · exact (to h).step fun cs => .one step_loop
      · exact (to h).step fun cs => .one step_inLoop
      · exact (to h).step fun cs => .one step_scope
      · split at h
        · rename_i id k' hk'
          exact (to h).step fun cs => .one (step_exit hk')
        · exact h.elim
      · exact (to h).step fun cs => .one step_region
      · rename_i id ops _
        unfold drawT at h
        split at h
        · exact h.elim
        · rename_i q ds T' m' hds
          split at h
          · rename_i hord
            obtain ⟨hq, h⟩ := Tree.sat_needs h
            intro cs
            obtain ⟨a', w', R', h1, h2, h3, h4, h6⟩ := hd id ops f.tm m n0 F w0 w R a q ds T' m' hds hord hq hT hdf hR (bf f.fn) k cs
            obtain ⟨v, w2, fr, k1, k2, k3⟩ := on h h2 h3 h4.compact h1 cs
            exact ⟨v, w2, fr, k1, h6.trans k2, k3⟩
          · exact h.elim
      · rename_i ops l _
        split at h
        · exact (to h).step fun cs => .one step_region_end
        · rename_i i rest _
          split at h
          · exact h.elim
          · rename_i o ho
            rw [nth_eq, Array.getElem?_toList] at ho
            split at h
            · exact h.elim
            · rename_i b hb
              have hw := want_ok hb hT
              obtain ⟨h1, h2⟩ := Tree.sat_ite h
              cases e : b.den with
              | false =>
                refine (on (h2 e) ((knowG_ok hT hb e).put o.dst (v := undef) ⟨#[], rfl, trivial⟩) (by rw [dst_defers]; exact hdf) hR (ExtN.refl _ _ R)).step fun cs => .one (step_pass ho (by rw [hw, e]))
              | true =>
                have hw' : Region.wanted o (yielded ops a.tmps) = true := by rw [hw, e]
                have h := h1 e
                have hT := knowG_ok hT hb e
                unfold opT at h
                split at h
                · unfold callT at h
                  split at h
                  · exact h.elim
                  · rename_i g l hcl
                    split at h
                    · rename_i t hcon
                      obtain ⟨fn, hfn, hbd, hans⟩ := hE.con _ _ _ _ _ hcon (Tree.sat_graft h)
                      obtain ⟨hpf, hpn⟩ := hE.fns _ _ hfn
                      obtain ⟨args, ha1, ha2⟩ := callS_ok (w := w) hcl hT hpf hpn hbd
                      intro cs
                      obtain ⟨u, w2, ⟨s, m2, R2, k1, k2, k3, k4⟩, k5⟩ := steps_call (b := bf f.fn) (k := k) (cs := cs) (rest := rest) ho hw' ha2 (hans n0 F w0 w R args ha1 hR)
                      obtain ⟨v', w3, fr, j1, j2, j3⟩ := on k1 ((hT.mono k2.1).put o.dst k4) (by rw [dst_defers]; exact hdf) k3 k2 cs
                      exact ⟨v', w3, fr, j1, k5.trans j2, j3⟩
                    · split at h
                      · rename_i fn hfn
                        split at h
                        · rename_i c hc
                          have h' := Tree.sat_graft h
                          obtain ⟨hpf, hpn⟩ := hE.fns _ _ hfn
                          obtain ⟨args, ha1, ha2⟩ := callS_ok (w := w) hcl hT hpf hpn (by rw [hc]; rfl)
                          have hans := inline_ok hE hr hfn hc ha1 hR h'
                          intro cs
                          obtain ⟨u, w2, ⟨s, m2, R2, k1, k2, k3, k4⟩, k5⟩ := steps_call (b := bf f.fn) (k := k) (cs := cs) (rest := rest) ho hw' ha2 hans
                          obtain ⟨v', w3, fr, j1, j2, j3⟩ := on k1 ((hT.mono k2.1).put o.dst k4) (by rw [dst_defers]; exact hdf) k3 k2 cs
                          exact ⟨v', w3, fr, j1, k5.trans j2, j3⟩
                        · exact h.elim
                      · exact h.elim
                · split at h
                  · split at h
                    · rename_i q s m' hx
                      obtain ⟨hq, h⟩ := Tree.sat_needs h
                      obtain ⟨R', w', v, k1, k2, k3, k4, k5⟩ := xapp_ok hx hq hT hR
                      have hX' : ExtN ws w' f.base m'.next Rs R' := by
                        refine ⟨hX.1.trans k1.1, fun i g hi => ?_, Nat.le_trans hX.2.2.1 k1.2.2, by rw [k2]; have := hX.2.2.2; omega⟩
                        rcases k1.2.1 i g hi with h1 | ⟨h1, h2 | ⟨j, h2, h3⟩⟩
                        · exact hX.2.1 i g h1
                        · exact .inr ⟨Nat.le_trans hX.2.2.1 h2, Nat.le_trans hX.2.2.2 h1⟩
                        · rcases hX.2.1 j g h3 with h4 | ⟨h4, _⟩
                          · have := hs j g h4; omega
                          · exact .inr ⟨h4, Nat.le_trans hX.2.2.2 h1⟩
                      exact (hr ⟨f.fn, dstS (knowG f.tm ops.toList o true) o.dst s, _, f.base⟩ m' n0 F w0 ws w' Rs R' _ A B Φ h ((hT.mono k1.1).put o.dst k4) (by rw [dst_defers]; exact hdf) k3 hX' hs hA hB).step fun cs => .one (step_op ho hw' k5)
                    · exact h.elim
                  · split at h
                    · rename_i q s m' hx
                      obtain ⟨hq, h⟩ := Tree.sat_needs h
                      obtain ⟨R', w', v, k1, k2, k3, k4⟩ := xop_ok hx hq hT hR
                      exact (on h ((hT.mono k1.1).put o.dst k3) (by rw [dst_defers]; exact hdf) k2 k1).step fun cs => .one (step_op ho hw' k4)
                    · exact h.elim
      · exact h.elim
end
end Go.Proofs.Ytdbhbpkdefbibaa
