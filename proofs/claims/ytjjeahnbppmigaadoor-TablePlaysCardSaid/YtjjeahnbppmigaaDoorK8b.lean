/- The symbolic machine's steps are the machine's. No condition. -/
import Derived.Test.YtjjeahnbppmigaaDoorK8
import Derived.AtR
set_option linter.unusedVariables false
set_option linter.unusedSimpArgs false
namespace Go.Proofs.YtjjeahnbppmigaaDoor
set_option linter.unusedSectionVars false
variable [Gh]

omit [Gh] in
def Tree.sat (A : SV → SMem → Prop) (B : List SFr → SMem → Prop) : Tree → Prop
  | .ret v m => A v m
  | .br b t e => (b = true → t.sat A B) ∧ (b = false → e.sat A B)
  | .need q t => (∀ p ∈ q, p) ∧ t.sat A B
  | .stop f m => B f m
  | .fail _ => False
structure EnvOk (E : Env) : Prop where
  fns : ∀ f g, E.fn f = some g → E.P.funcs[f]? = some g ∧ (g.name == "runtime.NumGoroutine") = false
  con : ∀ f l m t A, E.con f l m = some t → t.sat A (fun _ _ => False) → ∃ g, E.fn f = some g ∧ g.body.isSome = true ∧ ∀ (n0 : Nat) (F : Nat → Prop) (w0 w : World) (R : Ren) (args : Array Value), All2 (SV.ok R) l args.toList → Rel n0 F w0 R m w →
    Answers E.P f args w fun u w' => ∃ s m' R', A s m' ∧ ExtN w w' m.next m'.next R R' ∧ Rel n0 F w0 R' m' w' ∧ s.ok R' u
  mixed : E.P.follows .mixedOrders = true

omit [Gh] in
theorem Tree.sat_graft {A : SV → SMem → Prop} {B : List SFr → SMem → Prop} {k : SV → SMem → Tree} : ∀ {t : Tree}, (t.graft k).sat A B → t.sat (fun v m => (k v m).sat A B) (fun _ _ => False)
  | .ret _ _, h => h
  | .br _ _ _, h => ⟨fun e => Tree.sat_graft (h.1 e), fun e => Tree.sat_graft (h.2 e)⟩
  | .need _ _, h => ⟨h.1, Tree.sat_graft h.2⟩
  | .stop _ _, h => h.elim
  | .fail _, h => h.elim
omit [Gh] in
theorem Tree.sat_needs {A : SV → SMem → Prop} {B : List SFr → SMem → Prop} {q : List Prop} {t : Tree} (h : (needs q t).sat A B) : (∀ p ∈ q, p) ∧ t.sat A B := by
  cases q with
  | nil => exact ⟨fun _ hp => (by cases hp), h⟩
  | cons p q => exact h
omit [Gh] in
theorem Tree.sat_ite {A : SV → SMem → Prop} {B : List SFr → SMem → Prop} {b : SB} {t e : Tree} (h : (ite' b t e).sat A B) : (b.den = true → t.sat A B) ∧ (b.den = false → e.sat A B) := by
  cases b with
  | l b => cases b <;> exact ⟨fun x => (by first | exact h | cases x), fun x => (by first | exact h | cases x)⟩
  | o b => exact h

section
variable {P : Program} {n0 : Nat} {F : Nat → Prop} {w0 w : World} {R : Ren} {m : SMem} {T : Tm} {a : Act}
omit [Gh] in
theorem callS_ok {o : Oper} {g : FuncId} {l : List SV} {fn : Func} (h : callS T o.op = some (g, l)) (hT : TmOk R T a) (hf : P.funcs[g]? = some fn) (hn : (fn.name == "runtime.NumGoroutine") = false) (hb : fn.body.isSome = true) :
    ∃ args : Array Value, All2 (SV.ok R) l args.toList ∧ (execOp a.eval o).run P w = .ok (.enter g args) w := by
  generalize ho : o.op = op at h
  unfold callS at h
  split at h
  · rename_i f args ts
    split at h
    · rename_i g' x y l' hf' hl
      cases h
      obtain ⟨fx, fy, e, h1, h2⟩ := ev_ok hT hf'
      have h3 := evs_ok hT hl
      refine ⟨fx ++ args.map a.eval ++ fy, ?_, ?_⟩
      · simp only [Array.toList_append, Array.toList_map]
        exact All2.append (All2.append (All2.map h1) h3) (All2.map h2)
      · obtain ⟨c, hc⟩ := Option.isSome_iff_exists.1 hb
        have hn' : fn.name ≠ "runtime.NumGoroutine" := by simpa using hn
        simp [execOp, ho, resolve, e, Deferred.ofValue, invoke, callFunc, hf, hc, hn', program, Sem.run]
    · cases h
  · cases h

omit [Gh] in
theorem want_ok {ops : Array Oper} {o : Oper} {b : SB} (h : wantS T ops.toList o = some b) (hT : TmOk R T a) : Region.wanted o (yielded ops a.tmps) = b.den := by
  unfold wantS at h
  unfold Region.wanted
  split at h
  · rename_i hg
    cases h
    simp [hg, SB.den]
  · rename_i j want hg
    simp only [hg]
    split at h
    · rename_i p hp
      rw [nth_eq, Array.getElem?_toList] at hp
      split at h
      · rename_i d hd
        have hy : yielded ops a.tmps j = match a.tmps[d]? with | some (.bool b) => some b | _ => none := by
          unfold yielded
          rw [hp]
          simp only [Option.bind_some, hd]
          rfl
        rw [hy]
        split at h
        · rename_i c hc
          cases h
          obtain ⟨v, hv, hr⟩ := hT.get hc
          have e : v = .bool c.den := hr
          rw [hv, e, beq_den]
          cases hc : c.den <;> cases want <;> simp [SB.den]
        · rename_i l hc
          cases h
          obtain ⟨v, hv, hr⟩ := hT.get hc
          obtain ⟨vs, e, _⟩ := hr
          rw [hv, e]
          simp [SB.den]
        · cases h
      · rename_i hd
        cases h
        have hy : yielded ops a.tmps j = none := by simp [yielded, hp, hd]
        rw [hy]; simp [SB.den]
    · rename_i hp
      cases h
      rw [nth_eq, Array.getElem?_toList] at hp
      have hy : yielded ops a.tmps j = none := by simp [yielded, hp]
      rw [hy]; simp [SB.den]

omit [Gh] in
def rvar (tmps : Array Value) : ResultVar → Sem Value
  | .tmp t => pure (tmps.getD t undef)
  | .cell a t => do loadVar t (← asAddr (tmps.getD a undef))
theorem resS_ok (hT : TmOk R T a) (hR : Rel n0 F w0 R m w) : ∀ {l : List ResultVar} {q : List Prop} {s : List S1}, resS P T m l = some (q, s) → (∀ p ∈ q, p) →
    ∃ vs : List Value, All2 (S1.ok R) s vs ∧ (l.mapM (rvar a.tmps)).run P w = .ok vs w
  | [], q, s, h, _ => by
    simp only [resS, Option.some.injEq, Prod.mk.injEq] at h
    obtain ⟨rfl, rfl⟩ := h
    exact ⟨[], trivial, by simp⟩
  | .tmp t :: l, q, s, h, hq => by
    simp only [resS] at h
    split at h
    · rename_i x q' l' hx hl
      cases h
      obtain ⟨vs, h1, h2⟩ := resS_ok hT hR hl hq
      obtain ⟨v, hv, hr⟩ := hT.get hx
      refine ⟨v :: vs, ⟨hr, h1⟩, ?_⟩
      have e : (rvar a.tmps (.tmp t)).run P w = .ok v w := by simp [rvar, hv]
      simp [List.mapM_cons, e, h2]
    · cases h
  | .cell x t :: l, q, s, h, hq => by
    simp only [resS] at h
    split at h
    · rename_i y q' l' hx hl
      split at h
      · rename_i q1 z m1 hld
        cases h
        obtain ⟨vs, h1, h2⟩ := resS_ok hT hR hl fun p hp => hq p (List.mem_append_right _ hp)
        obtain ⟨v, hv, hr⟩ := hT.get hx
        obtain ⟨_, u, k1, _, g, k, k3, k4⟩ := loadS_ok hld (fun p hp => hq p (List.mem_append_left _ hp)) hr hR
        refine ⟨u :: vs, ⟨k1, h1⟩, ?_⟩
        have e : (rvar a.tmps (.cell x t)).run P w = .ok u w := by simp [rvar, hv, k3, asAddr, k4]
        simp [List.mapM_cons, e, h2]
      · cases h
    · cases h
theorem results_ok {fn : Func} (hT : TmOk R T a) (hR : Rel n0 F w0 R m w) {q : List Prop} {s : List S1} (h : resS P T m fn.results.toList = some (q, s)) (hq : ∀ p ∈ q, p) :
    ∃ v, (oneOf s).ok R v ∧ (results fn a.tmps).run P w = .ok v w := by
  obtain ⟨vs, h1, h2⟩ := resS_ok hT hR h hq
  have hr : (results fn a.tmps).run P w = .ok (if h : vs.toArray.size = 1 then vs.toArray[0] else .tuple vs.toArray) w := by
    have e : results fn a.tmps = (do
        let vs ← fn.results.mapM (rvar a.tmps)
        pure (if h : vs.size = 1 then vs[0] else .tuple vs)) := by
      unfold results
      congr 2
    rw [e, Array.mapM_eq_mapM_toList]
    simp [h2]
  refine ⟨_, ?_, hr⟩
  match s, vs, h1 with
  | [x], [v], h1 => exact h1.1
  | [], [], _ => exact ⟨#[], by simp, trivial⟩
  | x :: y :: l, u :: v :: vs, h1 => exact ⟨(u :: v :: vs).toArray, by simp, h1⟩
  | [], _ :: _, h1 => exact h1.elim
  | _ :: _, [], h1 => exact h1.elim
  | [_], _ :: _ :: _, h1 => exact h1.2.elim
  | _ :: _ :: _, [_], h1 => exact h1.2.elim

omit [Gh] in
theorem dst_defers (a : Act) (d : Option Tmp) (v : Value) : (a.put d v).defers = a.defers := by cases d <;> rfl
end

omit [Gh] in
theorem All2.set_right {α β : Type} {r : α → β → Prop} {n : Nat} {a : α} {b : β} : ∀ {l : List α} {m : List β}, All2 r l m → m[n]? = some b → r a b → All2 r (l.set n a) m := by
  induction n with
  | zero =>
    intro l m h hb hr
    cases l with
    | nil => exact h
    | cons x l => cases m with
      | nil => exact h.elim
      | cons y m =>
        simp only [List.getElem?_cons_zero, Option.some.injEq] at hb
        subst hb
        exact ⟨hr, h.2⟩
  | succ n ih =>
    intro l m h hb hr
    cases l with
    | nil => exact h
    | cons x l => cases m with
      | nil => exact h.elim
      | cons y m => exact ⟨h.1, ih h.2 (by simpa using hb) hr⟩
omit [Gh] in
theorem know_ok {R : Ren} {T : Tm} {a : Act} {d : Nat} {b : Bool} (hT : TmOk R T a) (h : ∀ c, T.get d = some (.s (.c (.f (.bool c)))) → c.den = b) : TmOk R (knowS T d b) a := by
  unfold knowS
  split
  · rename_i c hc
    obtain ⟨v, hv, hr⟩ := hT.get hc
    have e : v = .bool c := hr
    have e2 : c = b := h (.o c) hc
    refine ⟨by rw [Tm.set_n]; exact hT.1, fun i s hs => ?_⟩
    rw [Tm.get_set] at hs
    split at hs
    · rename_i e3
      cases hs
      rw [e3.1]
      exact ⟨v, hv, by rw [e, e2]; rfl⟩
    · exact hT.get hs
  · exact hT
omit [Gh] in
theorem knowG_ok {R : Ren} {T : Tm} {a : Act} {ops : List Oper} {o : Oper} {b : SB} {yes : Bool} (hT : TmOk R T a) (hw : wantS T ops o = some b) (h : b.den = yes) : TmOk R (knowG T ops o yes) a := by
  unfold knowG
  unfold wantS at hw
  split
  · exact hT
  · rename_i j want hg
    rw [hg] at hw
    dsimp only at hw
    split
    · rename_i p hp
      rw [hp] at hw
      dsimp only at hw
      split
      · rename_i d hd
        rw [hd] at hw
        dsimp only at hw
        refine know_ok hT fun c hc => ?_
        rw [hc] at hw
        simp only [Option.some.injEq] at hw
        rw [← h, ← hw, beq_den]
        cases want <;> cases hcd : c.den <;> simp [SB.den]
      · exact hT
    · exact hT
omit [Gh] in
theorem knowC_ok {R : Ren} {T : Tm} {a : Act} {c : Operand} {t : SB} {b : Bool} (hT : TmOk R T a) (hc : ev T c = some (.s (.c (.f (.bool t))))) (h : t.den = b) : TmOk R (knowC T c b) a := by
  unfold knowC
  split
  · rename_i d
    refine know_ok hT fun c' hc' => ?_
    have hc : T.get d = _ := hc
    rw [hc'] at hc
    simp only [Option.some.injEq, SV.s.injEq, S1.c.injEq, SC.f.injEq, SF.bool.injEq] at hc
    rw [hc]; exact h
  · exact hT


omit [Gh] in
theorem lastFn_head {f f' : SFr} (h : f'.fn = f.fn) : ∀ cs, lastFn (f' :: cs) = lastFn (f :: cs)
  | [] => h
  | _ :: _ => rfl
omit [Gh] in
theorem finish_ok {R : Ren} {f f' : SFr} {fr : Frame} {v : SV} {u : Value} (h : f.finish v = some f') (hf : FrOk R f fr) (hv : v.ok R u) : FrOk R f' (fr.finish u) ∧ f'.fn = f.fn := by
  obtain ⟨fn, tmps, todo, ds, mode, kind, ro⟩ := fr
  obtain ⟨h1, h2, h3, h4, h5, h6, h7⟩ := hf
  unfold SFr.finish at h
  split at h
  · rename_i ops i rest k htd
    rw [htd] at h3
    split at h
    · rename_i o ho
      cases h
      cases todo with
      | nil => exact h3.elim
      | cons y ys =>
        obtain ⟨k1, k2⟩ := h3
        obtain rfl : y = _ := k1
        rw [nth_eq, Array.getElem?_toList] at ho
        have hT : TmOk R f.tm ⟨tmps, ds⟩ := h2
        refine ⟨⟨h1, ?_, ⟨rfl, k2⟩, h4, h5, h6, h7⟩, rfl⟩
        have := TmOk.put hT o.dst hv
        unfold TmOk at this
        cases hd : o.dst with
        | none => rw [hd] at this; simpa [Frame.finish, ho, hd, Act.put] using this
        | some d => rw [hd] at this; simpa [Frame.finish, ho, hd, Act.put] using this
    · cases h
  · rename_i l k htd
    cases h
    rw [htd] at h3
    cases todo with
    | nil => exact h3.elim
    | cons y ys =>
      obtain ⟨⟨g, k0, k1⟩, k2⟩ := h3
      subst k1
      exact ⟨⟨h1, h2, ⟨⟨g, k0, rfl⟩, k2⟩, h4, h5, h6, h7⟩, rfl⟩
  · cases h
omit [Gh] in
theorem exitS_ok {R : Ren} {id : Nat} : ∀ {k : List SIt} {l : List Item}, All2 (ItOk R) k l → match exitS id k with | some k' => ∃ l', exitTo id l = some l' ∧ All2 (ItOk R) k' l' | none => exitTo id l = none
  | [], [], _ => rfl
  | [], _ :: _, h => h.elim
  | _ :: _, [], h => h.elim
  | x :: k, y :: l, h => by
    obtain ⟨h1, h2⟩ := h
    have ih := exitS_ok (id := id) h2
    cases x with
    | inR i => obtain ⟨g, _, rfl⟩ := h1; exact ih
    | endR i => obtain ⟨g, _, rfl⟩ := h1; exact ih
    | it x =>
      obtain rfl : y = x := h1
      cases y with
      | inBlock id' =>
        simp only [exitS, exitTo]
        by_cases e : (id' == id) = true
        · rw [if_pos e, if_pos e]
          exact ⟨l, rfl, h2⟩
        · rw [if_neg e, if_neg e]
          exact ih
      | _ => exact ih
omit [Gh] in
theorem setPs_ok {R : Ren} : ∀ {ps : List Tmp} {l : List SV} {T T' : Tm} {args : List Value} {tmps : Array Value}, setPs T ps l = some T' → TmOkA R T tmps → All2 (SV.ok R) l args →
    args.length = ps.length ∧ TmOkA R T' ((ps.zip args).foldl (fun (tm : Array Value) (p : Tmp × Value) => tm.setIfInBounds p.1 p.2) tmps)
  | [], [], T, T', [], tmps, h, hT, _ => by
    simp only [setPs, Option.some.injEq] at h
    subst h
    exact ⟨rfl, hT⟩
  | [], [], _, _, _ :: _, _, _, _, h => h.elim
  | [], _ :: _, _, _, _, _, h, _, _ => by cases h
  | _ :: _, [], _, _, _, _, h, _, _ => by cases h
  | _ :: _, _ :: _, _, _, [], _, _, _, h => h.elim
  | p :: ps, v :: l, T, T', u :: args, tmps, h, hT, hl => by
    simp only [setPs] at h
    have hT2 : TmOkA R (T.set p (some v)) (tmps.setIfInBounds p u) := TmOkA.set hT p hl.1
    obtain ⟨h1, h2⟩ := setPs_ok h hT2 hl.2
    exact ⟨by simp [h1], by simpa using h2⟩
omit [Gh] in
theorem zip_foldl {ps : Array Tmp} {args tmps : Array Value} : ((ps.zip args).foldl (fun tm (x : Tmp × Value) => match x with | (t, a) => tm.setIfInBounds t a) tmps) = (ps.toList.zip args.toList).foldl (fun (tm : Array Value) (p : Tmp × Value) => tm.setIfInBounds p.1 p.2) tmps := by
  rw [← Array.foldl_toList, Array.toList_zip]
omit [Gh] in
theorem callY_ok {P : Program} {w : World} {R : Ren} {T : Tm} {a : Act} {o : Oper} {id : Nat} {l : List SV} (h : callY T o.op = some (id, l)) (hT : TmOk R T a) :
    ∃ (g : Loc) (args : Array Value), R id = some g ∧ All2 (SV.ok R) l args.toList ∧ (execOp a.eval o).run P w = (Instr.yield g.b args).run P w := by
  generalize ho : o.op = op at h
  unfold callY at h
  split at h
  · rename_i f args ts
    split at h
    · rename_i id' l' hf hl
      cases h
      obtain ⟨g, hg, e⟩ := ev_ok hT hf
      refine ⟨g, args.map a.eval, hg, by simpa using evs_ok hT hl, ?_⟩
      simp [execOp, ho, resolve, e, Deferred.ofValue, invoke]
    · cases h
  · cases h
def RunOk (E : Env) (r : Nat → List SFr → SMem → Tree) : Prop :=
  ∀ (base : Nat) (fs : List SFr) (m : SMem) (n0 : Nat) (F : Nat → Prop) (w0 ws w : World) (Rs R : Ren) (fr : Frame) (frs : List Frame) (A : SV → SMem → Prop) (B : List SFr → SMem → Prop) (Φ : Value → World → Prop),
    (r base fs m).sat A B → All2 (FrOk R) fs (fr :: frs) → Rel n0 F w0 R m w → ExtN ws w base m.next Rs R → (∀ i g, Rs i = some g → i < base) →
    (∀ s m' R' w' v, A s m' → ExtN ws w' base m'.next Rs R' → Rel n0 F w0 R' m' w' → s.ok R' v → Φ v w') →
    (∀ fs' m' R' w' fr' frs', B fs' m' → lastFn fs' = lastFn fs → ExtN ws w' base m'.next Rs R' → Rel n0 F w0 R' m' w' → All2 (FrOk R') fs' (fr' :: frs') → Leads E.P (lastFn fs) fr' frs' w' Φ) →
    Leads E.P (lastFn fs) fr frs w Φ
section
variable {E : Env} (hE : EnvOk E) {r : Nat → List SFr → SMem → Tree} (hr : RunOk E r)
include hE hr
theorem inline_ok {g : FuncId} {fn : Func} {c : Code} {l : List SV} {args : Array Value} {m : SMem} {n0 : Nat} {F : Nat → Prop} {w0 w : World} {R : Ren} {A : SV → SMem → Prop} (hg : E.fn g = some fn) (hc : fn.body = some c)
    (hl : All2 (SV.ok R) l args.toList) (hR : Rel n0 F w0 R m w) (h : (r m.next [callFr g fn.ntmps l c] m).sat A (fun _ _ => False)) :
    Answers E.P g args w fun u w' => ∃ s m' R', A s m' ∧ ExtN w w' m.next m'.next R R' ∧ Rel n0 F w0 R' m' w' ∧ s.ok R' u :=
  Answers.of_leads (hE.fns _ _ hg).1 hc (hr m.next [callFr g fn.ntmps l c] m n0 F w0 w w R R _ [] A (fun _ _ => False) _ h
    ⟨⟨rfl, TmOk.pad fn.ntmps hl, ⟨rfl, trivial⟩, trivial, rfl, rfl, rfl⟩, trivial⟩ hR (ExtN.refl _ _ _) hR.nx
    (fun s m' R' w' v h1 h2 h3 h4 => ⟨s, m', R', h1, h2, h3, h4⟩) (fun _ _ _ _ _ _ h => h.elim))
end
def DrawOk (E : Env) (r : Nat → List SFr → SMem → Tree) : Prop :=
  ∀ (id tag base : Nat) (ops : Array Oper) (T : Tm) (m : SMem) (n0 : Nat) (F : Nat → Prop) (w0 w : World) (R : Ren) (a : Act) (next : Tm → SMem → Tree) (A : SV → SMem → Prop) (B : List SFr → SMem → Prop),
    (drawT E r tag base ops T m next).sat A B → TmOk R T a → Rel n0 F w0 R m w →
    ∃ T' m', (next T' m').sat A B ∧ ∀ (b : Frame), (b.roundOf = none ∨ noDefer ops.toList = true) → ∀ (k : List Item) (cs : List Frame), ∃ a' w' R', (ExtA base w w' m.next R R' ∧ m.next ≤ m'.next) ∧ TmOk R' T' a' ∧ a'.defers = a.defers ∧ Rel n0 F w0 R' m' w' ∧
      Steps E.P (lone (b.atR a (.code (.region id ops true) :: k)) cs w) (lone (b.atR a' k) cs w')
end Go.Proofs.YtjjeahnbppmigaaDoor
