/- The symbolic machine's frames are the machine's; single steps of the machine. No condition. -/
import Derived.Test.YtjjeahnbppmigaaDoorK7d
set_option linter.unusedVariables false
set_option linter.unusedSimpArgs false
namespace Go.Proofs.YtjjeahnbppmigaaDoor

def ItOk (R : Ren) : SIt → Item → Prop
  | .it x, y => y = x
  | .inR id, y => ∃ g, R id = some g ∧ y = .inRangeFunc g.b
  | .endR id, y => ∃ g, R id = some g ∧ y = .endRangeFunc g.b
def DfOk (R : Ren) : SDf → Deferred → Prop
  | .col id, d => ∃ g, R id = some g ∧ d = { target := .collected g.b, args := #[] }
  | .fn f l cap, d => ∃ args caps : Array Value, d = { target := .fn (.func f) caps, args } ∧ All2 (SV.ok R) l args.toList ∧ All2 (SF.ok R) cap caps.toList
def PanOk (R : Ren) (p : SPan) (e : PanicEntry) : Prop := p.v.ok R e.v ∧ e.recovered = p.got ∧ e.goexit = false
def MdOk (R : Ren) : SMd → FrameMode → Prop
  | .run, x => x = .run
  | .ret, x => x = .returning
  | .pan l, x => ∃ ch, x = .panicking ch ∧ All2 (PanOk R) l ch
def RndOk (R : Ren) : Option Nat → Option Nat → Prop
  | none, x => x = none
  | some id, x => ∃ g, R id = some g ∧ x = some g.b
structure FrOk (R : Ren) (sf : SFr) (fr : Frame) : Prop where
  fn : fr.fn = sf.fn
  tm : TmOkA R sf.tm fr.tmps
  todo : All2 (ItOk R) sf.todo fr.todo
  dfs : All2 (DfOk R) sf.dfs fr.defers
  md : MdOk R sf.md fr.mode
  kind : fr.kind = sf.kind
  rnd : RndOk R sf.rnd fr.roundOf

section
variable {R R' : Ren} (h : Ext R R')
include h
theorem ItOk.mono {x : SIt} {y : Item} (hx : ItOk R x y) : ItOk R' x y := by
  cases x with
  | it x => exact hx
  | inR id => obtain ⟨g, h1, h2⟩ := hx; exact ⟨g, h _ _ h1, h2⟩
  | endR id => obtain ⟨g, h1, h2⟩ := hx; exact ⟨g, h _ _ h1, h2⟩
theorem DfOk.mono {x : SDf} {y : Deferred} (hx : DfOk R x y) : DfOk R' x y := by
  cases x with
  | col id => obtain ⟨g, h1, h2⟩ := hx; exact ⟨g, h _ _ h1, h2⟩
  | fn f l cap => obtain ⟨a, c, h1, h2, h3⟩ := hx; exact ⟨a, c, h1, h2.mono fun _ _ => SV.mono h, h3.mono fun _ _ => SF.mono h⟩
theorem MdOk.mono {x : SMd} {y : FrameMode} (hx : MdOk R x y) : MdOk R' x y := by
  cases x with
  | run => exact hx
  | ret => exact hx
  | pan l => obtain ⟨ch, h1, h2⟩ := hx; exact ⟨ch, h1, h2.mono fun _ _ ⟨k1, k2⟩ => ⟨SC.mono h k1, k2⟩⟩
theorem RndOk.mono {x y : Option Nat} (hx : RndOk R x y) : RndOk R' x y := by
  cases x with
  | none => exact hx
  | some id => obtain ⟨g, h1, h2⟩ := hx; exact ⟨g, h _ _ h1, h2⟩
theorem FrOk.mono {f : SFr} {fr : Frame} (hx : FrOk R f fr) : FrOk R' f fr :=
  ⟨hx.fn, TmOkA.mono h hx.tm, hx.todo.mono fun _ _ => ItOk.mono h, hx.dfs.mono fun _ _ => DfOk.mono h, MdOk.mono h hx.md, hx.kind, RndOk.mono h hx.rnd⟩
theorem FrsOk.mono {f : List SFr} {fr : List Frame} (hx : All2 (FrOk R) f fr) : All2 (FrOk R') f fr := hx.mono fun _ _ => FrOk.mono h
end

def lastFn : List SFr → FuncId
  | [] => 0
  | [f] => f.fn
  | _ :: g :: l => lastFn (g :: l)
def Leads (P : Program) (f0 : FuncId) (fr : Frame) (frs : List Frame) (w : World) (Φ : Value → World → Prop) : Prop :=
  ∀ ds, ∃ v w' e, Φ v w' ∧ Steps P (lone fr (frs ++ ds) w) (lone e ds w') ∧ e.fn = f0 ∧ e.leaving P w' (.returned v)
def Answers (P : Program) (f : FuncId) (args : Array Value) (w : World) (Φ : Value → World → Prop) : Prop :=
  Calls P f args w fun e w' => ∃ v, e = .returned v ∧ Φ v w'
section
variable {P : Program} {f : FuncId} {fr : Frame} {frs : List Frame} {w : World} {Φ : Value → World → Prop}
theorem Leads.steps {fr' : Frame} {frs' : List Frame} {w' : World} (h : Leads P f fr' frs' w' Φ) (hs : ∀ ds, Steps P (lone fr (frs ++ ds) w) (lone fr' (frs' ++ ds) w')) : Leads P f fr frs w Φ :=
  fun ds => let ⟨v, w2, e, h1, h2, h3⟩ := h ds; ⟨v, w2, e, h1, (hs ds).trans h2, h3⟩
theorem Leads.one {fr' : Frame} {frs' : List Frame} {w' : World} (h : Leads P f fr' frs' w' Φ) (hs : ∀ ds, step P (lone fr (frs ++ ds) w) = .next (lone fr' (frs' ++ ds) w')) : Leads P f fr frs w Φ :=
  h.steps fun ds => .one (hs ds)
theorem Leads.mono {Ψ : Value → World → Prop} (h : Leads P f fr frs w Φ) (hm : ∀ v w', Φ v w' → Ψ v w') : Leads P f fr frs w Ψ :=
  fun ds => let ⟨v, w2, e, h1, h2⟩ := h ds; ⟨v, w2, e, hm _ _ h1, h2⟩
theorem Answers.mono {args : Array Value} {Ψ : Value → World → Prop} (h : Answers P f args w Φ) (hm : ∀ v w', Φ v w' → Ψ v w') : Answers P f args w Ψ :=
  Calls.mono h fun _ _ ⟨v, h1, h2⟩ => ⟨v, h1, hm _ _ h2⟩
theorem enter_eq {fn : Func} {c : Code} {args : Array Value} (hf : P.funcs[f]? = some fn) (hb : fn.body = some c) (kind : CallKind) :
    Frame.enter P f args kind = ⟨f, args ++ Array.replicate (fn.ntmps - args.size) undef, [.code c], [], .run, kind, none⟩ := by
  simp [Frame.enter, hf, hb]
theorem Answers.of_leads {fn : Func} {c : Code} {args : Array Value} (hf : P.funcs[f]? = some fn) (hb : fn.body = some c)
    (h : Leads P f ⟨f, args ++ Array.replicate (fn.ntmps - args.size) undef, [.code c], [], .run, .normal, none⟩ [] w Φ) : Answers P f args w Φ := by
  intro cs
  obtain ⟨v, w', e, h1, h2, h3, h4⟩ := h cs
  rw [← enter_eq hf hb .normal] at h2
  exact ⟨.returned v, w', e, ⟨v, rfl, h1⟩, h2, h3, h4⟩

/-! Steps. -/
variable {fn : FuncId} {tmps : Array Value} {k : List Item} {ds : List Deferred} {kind : CallKind} {ro : Option Nat} {cs : List Frame}
theorem st_seq {x y : Code} : step P (lone ⟨fn, tmps, .code (.seq x y) :: k, ds, .run, kind, ro⟩ cs w) = .next (lone ⟨fn, tmps, .code x :: .code y :: k, ds, .run, kind, ro⟩ cs w) := step_lone_go (by simp [stepG, stepG.exec])
theorem st_skip : step P (lone ⟨fn, tmps, .code .skip :: k, ds, .run, kind, ro⟩ cs w) = .next (lone ⟨fn, tmps, k, ds, .run, kind, ro⟩ cs w) := step_lone_go (by simp [stepG, stepG.exec])
theorem st_label {l : Nat} : step P (lone ⟨fn, tmps, .code (.label l) :: k, ds, .run, kind, ro⟩ cs w) = .next (lone ⟨fn, tmps, k, ds, .run, kind, ro⟩ cs w) := step_lone_go (by simp [stepG, stepG.exec])
theorem st_inBlock {l : Nat} : step P (lone ⟨fn, tmps, .inBlock l :: k, ds, .run, kind, ro⟩ cs w) = .next (lone ⟨fn, tmps, k, ds, .run, kind, ro⟩ cs w) := step_lone_go (by simp [stepG, stepG.exec])
theorem st_inScope {c : Code} : step P (lone ⟨fn, tmps, .inScope c :: k, ds, .run, kind, ro⟩ cs w) = .next (lone ⟨fn, tmps, k, ds, .run, kind, ro⟩ cs w) := step_lone_go (by simp [stepG, stepG.exec])
theorem st_block {l : Nat} {c : Code} : step P (lone ⟨fn, tmps, .code (.block l c) :: k, ds, .run, kind, ro⟩ cs w) = .next (lone ⟨fn, tmps, .code c :: .inBlock l :: k, ds, .run, kind, ro⟩ cs w) := step_lone_go (by simp [stepG, stepG.exec])
theorem st_loop {c : Code} : step P (lone ⟨fn, tmps, .code (.loop c) :: k, ds, .run, kind, ro⟩ cs w) = .next (lone ⟨fn, tmps, .code c :: .inLoop c :: k, ds, .run, kind, ro⟩ cs w) := step_lone_go (by simp [stepG, stepG.exec])
theorem st_inLoop {c : Code} : step P (lone ⟨fn, tmps, .inLoop c :: k, ds, .run, kind, ro⟩ cs w) = .next (lone ⟨fn, tmps, .code c :: .inLoop c :: k, ds, .run, kind, ro⟩ cs w) := step_lone_go (by simp [stepG, stepG.exec])
theorem st_scope {c : Code} : step P (lone ⟨fn, tmps, .code (.scope c) :: k, ds, .run, kind, ro⟩ cs w) = .next (lone ⟨fn, tmps, .code c :: .inScope c :: k, ds, .run, kind, ro⟩ cs w) := step_lone_go (by simp [stepG, stepG.exec])
theorem st_cond {c : Operand} {x y : Code} {t : Bool} (h : Act.eval ⟨tmps, ds⟩ c = .bool t) : step P (lone ⟨fn, tmps, .code (.cond c x y) :: k, ds, .run, kind, ro⟩ cs w) = .next (lone ⟨fn, tmps, .code (if t then x else y) :: k, ds, .run, kind, ro⟩ cs w) :=
  step_lone_go (by
    have e : Frame.eval ⟨fn, tmps, .code (.cond c x y) :: k, ds, .run, kind, ro⟩ c = .bool t := by rw [← h]; cases c <;> rfl
    simp [stepG, stepG.exec, e])
theorem st_exit {id : Nat} {k' : List Item} (h : exitTo id k = some k') : step P (lone ⟨fn, tmps, .code (.exit id) :: k, ds, .run, kind, ro⟩ cs w) = .next (lone ⟨fn, tmps, k', ds, .run, kind, ro⟩ cs w) := step_lone_go (by simp [stepG, stepG.exec, h])
theorem st_ret : step P (lone ⟨fn, tmps, .code .ret :: k, ds, .run, kind, none⟩ cs w) = .next (lone ⟨fn, tmps, .code .ret :: k, ds, .returning, kind, none⟩ cs w) := step_lone_go (by simp [stepG, stepG.exec])
theorem st_end : step P (lone ⟨fn, tmps, [], ds, .run, kind, none⟩ cs w) = .next (lone ⟨fn, tmps, [], ds, .returning, kind, none⟩ cs w) := step_lone_go (by simp [stepG, stepG.exec])
theorem st_region {id : Nat} {ops : Array Oper} : step P (lone ⟨fn, tmps, .code (.region id ops false) :: k, ds, .run, kind, ro⟩ cs w) = .next (lone ⟨fn, tmps, .inRegion ops (List.range ops.size) :: k, ds, .run, kind, ro⟩ cs w) := step_lone_go (by simp [stepG, stepG.exec])
theorem st_region_end {ops : Array Oper} : step P (lone ⟨fn, tmps, .inRegion ops [] :: k, ds, .run, kind, ro⟩ cs w) = .next (lone ⟨fn, tmps, k, ds, .run, kind, ro⟩ cs w) := step_lone_go (by simp [stepG, stepG.exec])

theorem st_round {l : Nat} {L : Loop} {c : Frame} {td : List Item} {jump : Option Code} (hL : w.heap[l]? = some (.loop L)) (hj : (td = [] ∧ jump = none) ∨ (∃ k, td = .code .ret :: k ∧ jump = some .ret) ∨ ∃ id k, td = .code (.exit id) :: k ∧ exitTo id k = none ∧ jump = some (.exit id)) :
    step P (lone ⟨fn, tmps, td, ds, .run, .normal, some l⟩ (c :: cs) w) = .next (lone (c.finish (.bool jump.isNone)) cs (w.putObj l (.loop { L with state := if jump.isNone then .ready else .done, pending := jump }))) := by
  have hr := run_endRound (P := P) jump hL
  rcases hj with ⟨rfl, rfl⟩ | ⟨k, rfl, rfl⟩ | ⟨id, k, rfl, he, rfl⟩
  · exact step_lone_go (by simp [stepG, stepG.exec, hr, doReturn])
  · exact step_lone_go (by simp [stepG, stepG.exec, hr, doReturn])
  · exact step_lone_go (by simp [stepG, stepG.exec, hr, doReturn, he])
theorem st_begin {l : Nat} {L : Loop} (hL : w.heap[l]? = some (.loop L)) (hs : L.state = .ready) :
    step P (lone ⟨fn, tmps, .beginRound :: k, ds, .run, kind, some l⟩ cs w) = .next (lone ⟨fn, tmps, k, ds, .run, kind, some l⟩ cs (w.putObj l (.loop { L with state := .busy }))) := by
  have hr := run_beginRound (P := P) hL hs
  exact step_lone_go (by simp [stepG, stepG.exec, stepG.apply, hr, Frame.finish])
theorem st_endLoop {l : Nat} {L : Loop} (hL : w.heap[l]? = some (.loop L)) (hs : L.state ≠ .busy) :
    step P (lone ⟨fn, tmps, .endRangeFunc l :: k, ds, .run, kind, ro⟩ cs w) = .next (lone ⟨fn, tmps, (L.pending.map Item.code).toList ++ k, ds, .run, kind, ro⟩ cs (w.putObj l (.loop { L with state := .exhausted }))) := by
  have hr := run_endLoop (P := P) hL hs
  exact step_lone_go (by simp [stepG, stepG.exec, hr])

/-! Loops over a function are entered. -/
theorem run_enter_inner {l : Nat} {L : Loop} (hL : w.heap[l]? = some (.loop L)) (ps : Array Tmp) (as bd : Code) :
    (Instr.enterLoop fn tmps ps as bd (some l)).run P w = .ok (w.heap.size, []) (w.alloc (.loop { state := .ready, pending := none, fn, tmps, params := ps, assign := as, body := bd, defers := L.defers })) := by
  unfold Instr.enterLoop
  simp only [Sem.run_bind, run_getLoop hL, run_newObj_alloc, Result.andThen, Sem.run_pure]
theorem run_callFn {h : FuncId} {hf : Func} {args : Array Value} (hp : P.funcs[h]? = some hf) (hn : (hf.name == "runtime.NumGoroutine") = false) (hb : hf.body.isSome = true) : (callFunc h args).run P w = .ok (.enter h args) w := by
  obtain ⟨c, hc⟩ := Option.isSome_iff_exists.1 hb
  have hn' : hf.name ≠ "runtime.NumGoroutine" := by simpa using hn
  simp [callFunc, hp, hc, hn', program, Sem.run]
theorem st_range {g : Operand} {ps : Array Tmp} {as bd : Code} {h : FuncId} {hf : Func} {x y : Array Value} (he : Act.eval ⟨tmps, ds⟩ g = .func (.func h) x y) (hp : P.funcs[h]? = some hf) (hn : (hf.name == "runtime.NumGoroutine") = false) (hb : hf.body.isSome = true) :
    step P (lone ⟨fn, tmps, .code (.rangeFunc g ps as bd) :: k, ds, .run, kind, none⟩ cs w) =
      .next (lone (Frame.enter P h (x ++ #[.func (.yield (w.heap.size + 1)) #[] #[]] ++ y) .normal) (⟨fn, tmps, .inRangeFunc (w.heap.size + 1) :: k, { target := .collected w.heap.size, args := #[] } :: ds, .run, kind, none⟩ :: cs)
        ((w.alloc (.deferred (some []))).alloc (.loop { state := .ready, pending := none, fn, tmps, params := ps, assign := as, body := bd, defers := w.heap.size }))) := by
  have hr := run_enterLoop_outer (P := P) (w := w) fn tmps ps as bd
  generalize (w.alloc (.deferred (some []))).alloc (.loop { state := .ready, pending := none, fn, tmps, params := ps, assign := as, body := bd, defers := w.heap.size }) = w1 at hr ⊢
  generalize w.heap.size + 1 = L at hr ⊢
  have e : Frame.eval ⟨fn, tmps, .inRangeFunc L :: k, { target := .collected w.heap.size, args := #[] } :: ds, .run, kind, none⟩ g = .func (.func h) x y := by rw [← he]; cases g <;> rfl
  have hc := run_callFn (P := P) (w := w1) (args := x ++ #[.func (.yield L) #[] #[]] ++ y) hp hn hb
  refine step_lone_go ?_
  simp only [stepG, stepG.exec, Sem.runT_eq, hr, GStep.bare_after, List.singleton_append]
  have e2 : ∀ (fr : Frame) v, fr.eval (.const v) = v := fun _ _ => rfl
  have hc' : (callFunc h (x.push (.func (.yield L) #[] #[]) ++ y)).run P w1 = .ok (.enter h (x ++ #[.func (.yield L) #[] #[]] ++ y)) w1 := by rw [← hc]; simp
  simp [stepG.apply, resolve, e, e2, Deferred.ofValue, invoke, hc']
theorem st_rangeIn {g : Operand} {ps : Array Tmp} {as bd : Code} {h : FuncId} {hf : Func} {x y : Array Value} {l : Nat} {L : Loop} (hL : w.heap[l]? = some (.loop L)) (he : Act.eval ⟨tmps, ds⟩ g = .func (.func h) x y) (hp : P.funcs[h]? = some hf) (hn : (hf.name == "runtime.NumGoroutine") = false) (hb : hf.body.isSome = true) :
    step P (lone ⟨fn, tmps, .code (.rangeFunc g ps as bd) :: k, ds, .run, kind, some l⟩ cs w) =
      .next (lone (Frame.enter P h (x ++ #[.func (.yield w.heap.size) #[] #[]] ++ y) .normal) (⟨fn, tmps, .inRangeFunc w.heap.size :: k, ds, .run, kind, some l⟩ :: cs)
        (w.alloc (.loop { state := .ready, pending := none, fn, tmps, params := ps, assign := as, body := bd, defers := L.defers }))) := by
  have hr := run_enter_inner (P := P) (fn := fn) (tmps := tmps) hL ps as bd
  generalize w.alloc (.loop { state := .ready, pending := none, fn, tmps, params := ps, assign := as, body := bd, defers := L.defers }) = w1 at hr ⊢
  generalize w.heap.size = L at hr ⊢
  have e : Frame.eval ⟨fn, tmps, .inRangeFunc L :: k, ds, .run, kind, some l⟩ g = .func (.func h) x y := by rw [← he]; cases g <;> rfl
  have hc := run_callFn (P := P) (w := w1) (args := x ++ #[.func (.yield L) #[] #[]] ++ y) hp hn hb
  refine step_lone_go ?_
  simp only [stepG, stepG.exec, Sem.runT_eq, hr, GStep.bare_after, List.nil_append]
  have e2 : ∀ (fr : Frame) v, fr.eval (.const v) = v := fun _ _ => rfl
  have hc' : (callFunc h (x.push (.func (.yield L) #[] #[]) ++ y)).run P w1 = .ok (.enter h (x ++ #[.func (.yield L) #[] #[]] ++ y)) w1 := by rw [← hc]; simp
  simp [stepG.apply, resolve, e, e2, Deferred.ofValue, invoke, hc']

/-! Operations. -/
variable {ops : Array Oper} {i : Nat} {rest : List Nat} {o : Oper} {w' : World}
def notDefer : Op → Bool
  | .defer _ => false
  | _ => true
theorem st_op (ho : ops[i]? = some o) (hw : Region.wanted o (yielded ops tmps) = true) (hd : ro = none ∨ notDefer o.op = true) :
    stepG P true { frame := ⟨fn, tmps, .inRegion ops (i :: rest) :: k, ds, .run, kind, ro⟩, callers := cs, status := .running, dying := none } w =
      stepG.apply P true ⟨fn, tmps, .inRegion ops (i :: rest) :: k, ds, .run, kind, ro⟩ cs none (execOp (Act.eval ⟨tmps, ds⟩) o) w := by
  have he : Frame.eval ⟨fn, tmps, .inRegion ops (i :: rest) :: k, ds, .run, kind, ro⟩ = Act.eval ⟨tmps, ds⟩ := by
    funext x; cases x <;> rfl
  simp only [stepG, stepG.exec, ho, Option.map_some, hw, Option.getD_some, if_true, stepG.oper, Frame.oper?, he]
  rcases hd with rfl | hd
  · rfl
  · cases ro with
    | none => rfl
    | some l =>
      cases hop : o.op with
      | defer c => rw [hop] at hd; cases hd
      | _ => rfl
theorem st_value {v : Value} (ho : ops[i]? = some o) (hw : Region.wanted o (yielded ops tmps) = true) (hd : ro = none ∨ notDefer o.op = true) (h : Ends P ⟨tmps, ds⟩ o w w' v) :
    step P (lone ⟨fn, tmps, .inRegion ops (i :: rest) :: k, ds, .run, kind, ro⟩ cs w) = .next (lone (Frame.finish ⟨fn, tmps, .inRegion ops (i :: rest) :: k, ds, .run, kind, ro⟩ v) cs w') := by
  refine step_lone_go ?_
  rw [st_op ho hw hd]
  rcases h with h | ⟨h, rfl⟩ <;> simp [stepG.apply, h]
theorem st_pass (ho : ops[i]? = some o) (hw : Region.wanted o (yielded ops tmps) = false) :
    step P (lone ⟨fn, tmps, .inRegion ops (i :: rest) :: k, ds, .run, kind, ro⟩ cs w) = .next (lone (Frame.finish ⟨fn, tmps, .inRegion ops (i :: rest) :: k, ds, .run, kind, ro⟩ undef) cs w) :=
  step_lone_go (by simp [stepG, stepG.exec, ho, hw])
theorem st_enter {g : FuncId} {args : Array Value} (ho : ops[i]? = some o) (hw : Region.wanted o (yielded ops tmps) = true) (hd : ro = none ∨ notDefer o.op = true) (h : (execOp (Act.eval ⟨tmps, ds⟩) o).run P w = .ok (.enter g args) w') :
    step P (lone ⟨fn, tmps, .inRegion ops (i :: rest) :: k, ds, .run, kind, ro⟩ cs w) = .next (lone (Frame.enter P g args .normal) (⟨fn, tmps, .inRegion ops (i :: rest) :: k, ds, .run, kind, ro⟩ :: cs) w') :=
  step_lone_go (by rw [st_op ho hw hd]; simp [stepG.apply, h])
theorem st_yield {l : Nat} {g : FuncId} {tm : Array Value} {as bd : Code} (ho : ops[i]? = some o) (hw : Region.wanted o (yielded ops tmps) = true) (hd : ro = none ∨ notDefer o.op = true) (h : (execOp (Act.eval ⟨tmps, ds⟩) o).run P w = .ok (.round l g tm as bd) w') :
    step P (lone ⟨fn, tmps, .inRegion ops (i :: rest) :: k, ds, .run, kind, ro⟩ cs w) = .next (lone ⟨g, tm, [.code as, .beginRound, .code bd], [], .run, .normal, some l⟩ (⟨fn, tmps, .inRegion ops (i :: rest) :: k, ds, .run, kind, ro⟩ :: cs) w') :=
  step_lone_go (by rw [st_op ho hw hd]; simp [stepG.apply, h, Frame.round])
theorem st_panic {v : Value} (ho : ops[i]? = some o) (hw : Region.wanted o (yielded ops tmps) = true) (hd : ro = none ∨ notDefer o.op = true) (h : (execOp (Act.eval ⟨tmps, ds⟩) o).run P w = .halt (.panic v) w') :
    step P (lone ⟨fn, tmps, .inRegion ops (i :: rest) :: k, ds, .run, kind, ro⟩ cs w) = .next (lone ⟨fn, tmps, .inRegion ops (i :: rest) :: k, ds, .panicking [{ v, recovered := false }], kind, ro⟩ cs w') :=
  step_lone_go (by rw [st_op ho hw hd]; simp [stepG.apply, h, Frame.raise])
theorem st_defer {d : Deferred} (ho : ops[i]? = some o) (hw : Region.wanted o (yielded ops tmps) = true) (h : (execOp (Act.eval ⟨tmps, ds⟩) o).run P w = .ok (.defer d) w') :
    step P (lone ⟨fn, tmps, .inRegion ops (i :: rest) :: k, ds, .run, kind, none⟩ cs w) = .next (lone (Frame.finish ⟨fn, tmps, .inRegion ops (i :: rest) :: k, d :: ds, .run, kind, none⟩ undef) cs w') :=
  step_lone_go (by rw [st_op ho hw (.inl rfl)]; simp [stepG.apply, h])
theorem st_recover (ho : ops[i]? = some o) (hw : Region.wanted o (yielded ops tmps) = true) (h : (execOp (Act.eval ⟨tmps, ds⟩) o).run P w = .ok .recover w') {v : Value} {cs' : List Frame}
    (hr : tryRecover ⟨fn, tmps, .inRegion ops (i :: rest) :: k, ds, .run, kind, none⟩ cs = some (v, cs')) :
    step P (lone ⟨fn, tmps, .inRegion ops (i :: rest) :: k, ds, .run, kind, none⟩ cs w) = .next (lone (Frame.finish ⟨fn, tmps, .inRegion ops (i :: rest) :: k, ds, .run, kind, none⟩ v) cs' w') :=
  step_lone_go (by rw [st_op ho hw (.inl rfl)]; simp [stepG.apply, h, hr])
theorem st_norecover (ho : ops[i]? = some o) (hw : Region.wanted o (yielded ops tmps) = true) (h : (execOp (Act.eval ⟨tmps, ds⟩) o).run P w = .ok .recover w')
    (hr : tryRecover ⟨fn, tmps, .inRegion ops (i :: rest) :: k, ds, .run, kind, none⟩ cs = none) :
    step P (lone ⟨fn, tmps, .inRegion ops (i :: rest) :: k, ds, .run, kind, none⟩ cs w) = .next (lone (Frame.finish ⟨fn, tmps, .inRegion ops (i :: rest) :: k, ds, .run, kind, none⟩ .nilIface) cs w') :=
  step_lone_go (by rw [st_op ho hw (.inl rfl)]; simp [stepG.apply, h, hr])

/-! A frame is left. -/
variable {td : List Item} {md : FrameMode}
theorem st_take {b : Nat} {x : List Deferred} (hmd : md ≠ .run) (hb : w.heap[b]? = some (.deferred (some x))) :
    step P (lone ⟨fn, tmps, td, { target := .collected b, args := #[] } :: ds, md, kind, ro⟩ cs w) = .next (lone ⟨fn, tmps, td, x ++ ds, md, kind, ro⟩ cs (w.putObj b (.deferred none))) := by
  have hr := run_takeDeferred (P := P) hb
  cases md with
  | run => exact (hmd rfl).elim
  | returning => exact step_lone_go (by simp [stepG, unwind, hr])
  | panicking c => exact step_lone_go (by simp [stepG, unwind, hr])
theorem st_deferred {g : FuncId} {gf : Func} {caps args : Array Value} (hmd : md ≠ .run) (hp : P.funcs[g]? = some gf) (hn : (gf.name == "runtime.NumGoroutine") = false) (hb : gf.body.isSome = true) :
    step P (lone ⟨fn, tmps, td, { target := .fn (.func g) caps, args } :: ds, md, kind, ro⟩ cs w) = .next (lone (Frame.enter P g (args ++ caps) .deferred) (⟨fn, tmps, td, ds, md, kind, ro⟩ :: cs) w) := by
  have hc := run_callFn (P := P) (w := w) (args := args ++ caps) hp hn hb
  cases md with
  | run => exact (hmd rfl).elim
  | returning => exact step_lone_go (by simp [stepG, unwind, callDeferred, invoke, hc])
  | panicking c => exact step_lone_go (by simp [stepG, unwind, callDeferred, invoke, hc])
theorem st_up {ch : List PanicEntry} {c : Frame} {gf : Func} (hp : P.funcs[fn]? = some gf) :
    step P (lone ⟨fn, tmps, td, [], .panicking ch, kind, ro⟩ (c :: cs) w) = .next (lone (c.raise ch) cs w) :=
  step_lone_go (by simp [stepG, unwind, Frame.catches, hp])
theorem st_back {c : Frame} {gf : Func} {v : Value} (hp : P.funcs[fn]? = some gf) (hr : (results gf tmps).run P w = .ok v w) :
    step P (lone ⟨fn, tmps, td, [], .returning, .normal, ro⟩ (c :: cs) w) = .next (lone (c.finish v) cs w) :=
  step_lone_go (by simp [stepG, unwind, hp, hr, doReturn])
def backF (c : Frame) : Frame :=
  match c.mode with
  | .panicking ({ recovered := true, .. } :: older) =>
    match older.dropWhile (!·.goexit) with
    | [] => { c with mode := .returning }
    | rest => { c with mode := .panicking rest }
  | _ => c
theorem st_backD {c : Frame} {gf : Func} {v : Value} (hp : P.funcs[fn]? = some gf) (hr : (results gf tmps).run P w = .ok v w) :
    step P (lone ⟨fn, tmps, td, [], .returning, .deferred, ro⟩ (c :: cs) w) = .next (lone (backF c) cs w) :=
  step_lone_go (by
    simp only [stepG, unwind, hp, Sem.runT_eq, hr, doReturn, GStep.bare_after, GStep.bare_go]
    rfl)
end
end Go.Proofs.YtjjeahnbppmigaaDoor
