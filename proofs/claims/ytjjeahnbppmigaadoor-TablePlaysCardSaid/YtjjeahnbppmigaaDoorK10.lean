/- A region that draws its order: the proof. No condition. -/
import Derived.Test.YtjjeahnbppmigaaDoorK9
import Derived.Test.YtjjeahnbppmigaaDoorK9b
set_option linter.unusedVariables false
set_option linter.unusedSimpArgs false
namespace Go.Proofs.YtjjeahnbppmigaaDoor

def GOk (G : List (Nat × Bool)) (T : Tm) : Prop := ∀ s v, (s, v) ∈ G → ∀ b, T.get s = some (.s (.c (.f (.bool (.o b))))) → b = v
def Refn (T T0 : Tm) : Prop := ∀ (R : Ren) (tmps : Array Value), TmOkA R T tmps → TmOkA R T0 tmps
theorem knowS_get {T : Tm} {d : Nat} {v : Bool} {s : Nat} : (knowS T d v).get s = T.get s ∨ (s = d ∧ ∃ b, T.get s = some (.s (.c (.f (.bool (.o b))))) ∧ (knowS T d v).get s = some (.s (.c (.f (.bool (.l v)))))) := by
  unfold knowS
  split
  · rename_i b hb
    rw [Tm.get_set]
    split
    · rename_i e
      exact .inr ⟨e.1, b, by rw [e.1]; exact hb, rfl⟩
    · exact .inl rfl
  · exact .inl rfl
theorem knowS_n (T : Tm) (d : Nat) (v : Bool) : (knowS T d v).n = T.n := by
  unfold knowS
  split
  · rw [Tm.set_n]
  · rfl
theorem GOk.know {T : Tm} {d : Nat} {v : Bool} {G : List (Nat × Bool)} (h : GOk G T) : GOk G (knowS T d v) := by
  intro s u hs b hb
  rcases knowS_get (T := T) (d := d) (v := v) (s := s) with e | ⟨_, b', _, e⟩
  · rw [e] at hb; exact h s u hs b hb
  · rw [e] at hb; cases hb
theorem applyG_get : ∀ {G : List (Nat × Bool)} {T : Tm}, GOk G T → ∀ s, (applyG T G).get s = T.get s ∨ ∃ b, T.get s = some (.s (.c (.f (.bool (.o b))))) ∧ (applyG T G).get s = some (.s (.c (.f (.bool (.l b)))))
  | [], _, _, _ => .inl rfl
  | (d, v) :: G, T, h, s => by
    have h1 : GOk G (knowS T d v) := GOk.know fun s u hs => h s u (List.mem_cons_of_mem _ hs)
    show (applyG (knowS T d v) G).get s = T.get s ∨ ∃ b, T.get s = some (.s (.c (.f (.bool (.o b))))) ∧ (applyG (knowS T d v) G).get s = some (.s (.c (.f (.bool (.l b)))))
    rcases applyG_get h1 s with e | ⟨b, e1, e2⟩
    · rw [e]
      rcases knowS_get (T := T) (d := d) (v := v) (s := s) with e | ⟨rfl, b, e1, e2⟩
      · exact .inl e
      · have := h s v (List.mem_cons_self ..) b e1
        subst this
        exact .inr ⟨b, e1, e2⟩
    · rcases knowS_get (T := T) (d := d) (v := v) (s := s) with e | ⟨rfl, b', _, e4⟩
      · rw [e] at e1
        exact .inr ⟨b, e1, e2⟩
      · rw [e4] at e1; cases e1
theorem applyG_n : ∀ (G : List (Nat × Bool)) (T : Tm), (applyG T G).n = T.n
  | [], _ => rfl
  | (d, v) :: G, T => (applyG_n G (knowS T d v)).trans (knowS_n T d v)
theorem applyG_ref {G : List (Nat × Bool)} {T : Tm} (h : GOk G T) : Refn T (applyG T G) := by
  intro R tmps hT
  refine ⟨hT.1.trans (applyG_n G T).symm, fun i s hs => ?_⟩
  rcases applyG_get h i with e | ⟨b, e1, e2⟩
  · rw [e] at hs; exact hT.2 i s hs
  · rw [e2] at hs
    cases hs
    obtain ⟨v, h1, h2⟩ := hT.2 i _ e1
    exact ⟨v, h1, h2⟩
theorem GOk.only {G : List (Nat × Bool)} {T : Tm} (h : GOk G T) (keep : List Nat) (n : Nat) : GOk G (onlyT keep n T) := fun s v hs b hb => h s v hs b (onlyT_get hb).2.1
theorem forgetG_mem : ∀ {G : List (Nat × Bool)} {d : Option Tmp} {p : Nat × Bool}, p ∈ forgetG d G → p ∈ G ∧ d ≠ some p.1
  | [], _, _, h => by cases h
  | q :: G, none, p, h => ⟨h, fun e => by cases e⟩
  | q :: G, some d, p, h => by
    unfold forgetG at h
    dsimp only at h
    split at h
    · obtain ⟨h1, h2⟩ := forgetG_mem h
      exact ⟨List.mem_cons_of_mem _ h1, h2⟩
    · rename_i e
      rcases List.mem_cons.1 h with rfl | h
      · refine ⟨List.mem_cons_self .., fun e' => ?_⟩
        cases e'
        simp at e
      · obtain ⟨h1, h2⟩ := forgetG_mem h
        exact ⟨List.mem_cons_of_mem _ h1, h2⟩
theorem learnG_ok {ops : List Oper} {o : Oper} {G : List (Nat × Bool)} {T : Tm} {keep : List Nat} {n : Nat} {b : SB} {yes : Bool} (h : GOk G T) (hw : wantS (applyG (onlyT keep n T) G) ops o = some b) (hb : b.den = yes) : GOk (learnG ops o yes G) T := by
  unfold learnG
  split
  · exact h
  · rename_i j want hg
    split
    · rename_i p hp
      split
      · rename_i d hd
        intro s v hs b0 hb0
        rcases List.mem_cons.1 hs with e | hs
        · obtain ⟨e1, e2⟩ := Prod.mk.inj e
          subst e1
          subst e2
          unfold wantS at hw
          rw [hg] at hw
          dsimp only at hw
          rw [hp] at hw
          dsimp only at hw
          rw [hd] at hw
          dsimp only at hw
          have hval : ∀ z, (applyG (onlyT keep n T) G).get s = some z → ∃ x : SB, z = .s (.c (.f (.bool x))) ∧ x.den = b0 := by
            intro z hz
            rcases applyG_get (h.only keep n) s with e | ⟨b1, e1, e2⟩
            · rw [e] at hz
              have := (onlyT_get hz).2.1
              rw [hb0] at this
              cases this
              exact ⟨_, rfl, rfl⟩
            · have := (onlyT_get e1).2.1
              rw [hb0] at this
              cases this
              rw [e2] at hz
              cases hz
              exact ⟨_, rfl, rfl⟩
          split at hw
          · rename_i x hx
            cases hw
            obtain ⟨y, e1, e2⟩ := hval _ hx
            cases e1
            have e3 : (x.beq (.l want)).den = (x.den == want) := by cases x <;> rfl
            rw [e3, e2] at hb
            rw [← hb]
            cases b0 <;> cases want <;> rfl
          · rename_i l hx
            obtain ⟨y, e1, _⟩ := hval _ hx
            cases e1
          · cases hw
        · exact h s v hs b0 hb0
      · exact h
    · exact h
theorem GOk.step {G : List (Nat × Bool)} {T : Tm} (h : GOk G T) (d : Option Tmp) (v : SV) : GOk (forgetG d G) (dstS T d v) := by
  intro s u hs b hb
  obtain ⟨h1, h2⟩ := forgetG_mem hs
  refine h s u h1 b ?_
  cases d with
  | none => exact hb
  | some d =>
    have hb : (T.set d (some v)).get s = _ := hb
    rw [Tm.get_set, if_neg (fun e => h2 (by rw [e.1]))] at hb
    exact hb
inductive DoneBy (E : Env) (r : Nat → List SFr → SMem → Tree) (ops : Array Oper) (o : Oper) (b0 : Nat) (T : Tm) (m : SMem) : DRec → Nat → Prop where
  | skip {b : SB} : wantS T ops.toList o = some b → b.den = false → DoneBy E r ops o b0 T m ⟨o.dst, .tup [], o.looksAt ops, [], [], [], []⟩ m.next
  | con {b : SB} {g : FuncId} {l : List SV} {t : Tree} {v : SV} {m1 : SMem} : wantS T ops.toList o = some b → b.den = true → callS T o.op = some (g, l) →
      E.con g l ⟨m.next, onlyB m.next true m.bl (reach m.bl 8 (catN SV.ids l)), []⟩ = some t → t.sat (fun s m' => s = v ∧ m' = m1) (fun _ _ => False) →
      keepB (onlyB m.next true m.bl (reach m.bl 8 (catN SV.ids l))) m1.bl (reach m.bl 8 (catN SV.ids l)) = true → sameB (onlyB m.next true m.bl (reach m.bl 8 (catN SV.ids l))) m1.bl (reach m.bl 8 (catN SV.ids l)) = true →
      DoneBy E r ops o b0 T m ⟨o.dst, v, o.looksAt ops, reach m.bl 8 (catN SV.ids l), collect m1.bl (chgs (onlyB m.next true m.bl (reach m.bl 8 (catN SV.ids l))) m1.bl (reach m.bl 8 (catN SV.ids l)) ++ upFrom (m1.next - m.next) m.next), newsX m.next m1.xs, []⟩ m1.next
  | call {b : SB} {g : FuncId} {l : List SV} {fn : Func} {c : Code} {v : SV} {m1 : SMem} {w : Bool} : wantS T ops.toList o = some b → b.den = true → callS T o.op = some (g, l) →
      E.fn g = some fn → fn.body = some c → (r m.next [callFr g fn.ntmps l c] ⟨m.next, onlyB m.next w m.bl (reach m.bl 8 (catN SV.ids l)), []⟩).sat (fun s m' => s = v ∧ m' = m1) (fun _ _ => False) →
      keepB (onlyB m.next w m.bl (reach m.bl 8 (catN SV.ids l))) m1.bl (reach m.bl 8 (catN SV.ids l)) = true → sameB (onlyB m.next w m.bl (reach m.bl 8 (catN SV.ids l))) m1.bl (reach m.bl 8 (catN SV.ids l)) = true →
      DoneBy E r ops o b0 T m ⟨o.dst, v, o.looksAt ops, reach m.bl 8 (catN SV.ids l), collect m1.bl ((if w then chgs (onlyB m.next w m.bl (reach m.bl 8 (catN SV.ids l))) m1.bl (reach m.bl 8 (catN SV.ids l)) else []) ++ upFrom (m1.next - m.next) m.next), newsX m.next m1.xs, []⟩ m1.next
  | op {b : SB} {q : List Prop} {v : SV} {m1 : SMem} : wantS T ops.toList o = some b → b.den = true →
      xopW E.P T ⟨m.next, onlyB m.next (writesOp o.op) m.bl (footOp T o.op), onlyX m.xs m.next (footOp T o.op)⟩ o.op = .ok q v m1 → (∀ p ∈ q, p) →
      keepB (onlyB m.next (writesOp o.op) m.bl (footOp T o.op)) m1.bl (footOp T o.op) = true → sameB (onlyB m.next (writesOp o.op) m.bl (footOp T o.op)) m1.bl (footOp T o.op) = true →
      DoneBy E r ops o b0 T m ⟨o.dst, v, o.looksAt ops, footOp T o.op, collect m1.bl ((if writesOp o.op then footOp T o.op else []) ++ upFrom (m1.next - m.next) m.next), newsX m.next m1.xs, []⟩ m1.next
  | appE {b : SB} {v : SV} {T0 : Tm} : wantS T ops.toList o = some b → b.den = true → SplitOf T o.op T0 → xappE E.P T0 o.op = some v → DoneBy E r ops o b0 T m ⟨o.dst, v, o.looksAt ops, [], [], [], []⟩ m.next
  | app {b : SB} {q : List Prop} {v : SV} {m1 : SMem} {T0 : Tm} : wantS T ops.toList o = some b → b.den = true → SplitOf T o.op T0 →
      xapp E.P b0 T0 ⟨m.next, appLoc m.next m.bl (appFoot T o.op) (appDst T o.op), []⟩ o.op = .ok q v m1 → (∀ p ∈ q, p) →
      allB (fun i => Nat.blt i m.next && (getB m1.bl i).isNone) (appDst T o.op) = true →
      DoneBy E r ops o b0 T m ⟨o.dst, v, o.looksAt ops, appFoot T o.op, collect m1.bl (upFrom (m1.next - m.next) m.next), [], appDst T o.op⟩ m1.next
theorem DoneBy.looks {E : Env} {r : Nat → List SFr → SMem → Tree} {ops : Array Oper} {o : Oper} {b0 : Nat} {T : Tm} {m : SMem} {d : DRec} {n : Nat} (h : DoneBy E r ops o b0 T m d n) : d.looks = o.looksAt ops := by
  cases h <;> rfl
theorem sat_leaf {A : SV → SMem → Prop} {B : List SFr → SMem → Prop} {k : SV → SMem → Tree} : ∀ {t : Tree}, (t.graft k).sat A B → ∃ v m1, t.sat (fun s m' => s = v ∧ m' = m1) (fun _ _ => False) ∧ (k v m1).sat A B
  | .ret v m, h => ⟨v, m, ⟨rfl, rfl⟩, h⟩
  | .br b t e, h => by
    cases hb : b with
    | true =>
      obtain ⟨v, m1, h1, h2⟩ := sat_leaf (h.1 hb)
      exact ⟨v, m1, ⟨fun _ => h1, fun e => (by cases e)⟩, h2⟩
    | false =>
      obtain ⟨v, m1, h1, h2⟩ := sat_leaf (h.2 hb)
      exact ⟨v, m1, ⟨fun e => (by cases e), fun _ => h1⟩, h2⟩
  | .need q t, h => by
    obtain ⟨v, m1, h1, h2⟩ := sat_leaf h.2
    exact ⟨v, m1, ⟨h.1, h1⟩, h2⟩
  | .stop _ _, h => h.elim
  | .fail _, h => h.elim
theorem dopT_sat {E : Env} {r : Nat → List SFr → SMem → Tree} {tag b0 : Nat} {ops : Array Oper} {o : Oper} {T : Tm} {m : SMem} {G : List (Nat × Bool)} {k : DRec → Nat → List (Nat × Bool) → Tree} {A : SV → SMem → Prop} {B : List SFr → SMem → Prop} (hG : GOk G T) (h : (dopT E r tag b0 ops o T m G k).sat A B) :
    ∃ d n G', DoneBy E r ops o b0 (applyG (onlyT (o.looksAt ops) m.next T) G) m d n ∧ GOk G' (dstS T d.dst d.v) ∧ (k d n G').sat A B := by
  unfold dopT at h
  dsimp only at h
  split at h
  · exact h.elim
  · rename_i b hw
    obtain ⟨e1, e2⟩ := Tree.sat_ite h
    cases hb : b.den with
    | false => exact ⟨_, _, _, .skip hw hb, GOk.step (learnG_ok hG hw hb) _ _, e2 hb⟩
    | true =>
      have hgo := fun v => GOk.step (learnG_ok hG hw hb) o.dst v
      have h := e1 hb
      split at h
      · split at h
        · exact h.elim
        · rename_i g l hcl
          split at h
          · rename_i t hcon
            obtain ⟨v, m1, h1, h2⟩ := sat_leaf h
            split at h2
            · rename_i hk
              simp only [Bool.and_eq_true] at hk
              exact ⟨_, _, _, .con hw hb hcl hcon h1 hk.1 hk.2, hgo _, h2⟩
            · exact h2.elim
          · split at h
            · exact h.elim
            · rename_i fn hfn
              split at h
              · exact h.elim
              · rename_i c hc
                obtain ⟨v, m1, h1, h2⟩ := sat_leaf h
                split at h2
                · rename_i hk
                  simp only [Bool.and_eq_true] at hk
                  exact ⟨_, _, _, .call hw hb hcl hfn hc h1 hk.1 hk.2, hgo _, h2⟩
                · exact h2.elim
      · split at h
        · obtain ⟨T0, hT0, h⟩ := splitT_sat h
          split at h
          · rename_i v hx
            exact ⟨_, _, _, .appE hw hb hT0 hx, hgo _, h⟩
          · split at h
            · rename_i q v m1 hx
              split at h
              · rename_i hk
                obtain ⟨hq, h⟩ := Tree.sat_needs h
                exact ⟨_, _, _, .app hw hb hT0 hx hq hk, hgo _, h⟩
              · exact h.elim
            · exact h.elim
        · split at h
          · rename_i q v m1 hx
            split at h
            · rename_i hk
              simp only [Bool.and_eq_true] at hk
              obtain ⟨hq, h⟩ := Tree.sat_needs h
              exact ⟨_, _, _, .op hw hb hx hq hk.1 hk.2, hgo _, h⟩
            · exact h.elim
          · exact h.elim
theorem drawG_trace {E : Env} {r : Nat → List SFr → SMem → Tree} {tag b0 : Nat} {ops : Array Oper} {A : SV → SMem → Prop} {B : List SFr → SMem → Prop} : ∀ {l : List Oper} {T : Tm} {m : SMem} {G : List (Nat × Bool)} {k : List DRec → Tm → SMem → Tree}, GOk G T → (drawG E r tag b0 ops l T m G k).sat A B →
    ∃ ds T' m', (k ds T' m').sat A B ∧ ds.length = l.length ∧ ∃ (Ts : Nat → Tm) (ms : Nat → SMem), Ts 0 = T ∧ ms 0 = m ∧ Ts l.length = T' ∧ ms l.length = m' ∧
      ∀ j o, l[j]? = some o → ∃ d T0, ds[j]? = some d ∧ Refn (onlyT (o.looksAt ops) (ms j).next (Ts j)) T0 ∧ DoneBy E r ops o b0 T0 (ms j) d (ms (j + 1)).next ∧ Ts (j + 1) = dstS (Ts j) d.dst d.v ∧ (ms (j + 1)).bl = insB d.bl (delB d.del (ms j).bl) ∧ (ms j).next ≤ (ms (j + 1)).next ∧ (ms (j + 1)).xs = d.xs ++ (ms j).xs
  | [], T, m, _, k, _, h => ⟨[], T, m, h, rfl, fun _ => T, fun _ => m, rfl, rfl, rfl, rfl, fun j o h => by simp at h⟩
  | o :: l, T, m, G, k, hG, h => by
    simp only [drawG] at h
    obtain ⟨d, n, G', hd, hG', h⟩ := dopT_sat hG h
    split at h
    · rename_i hn
      obtain ⟨ds, T', m', h0, h1, Ts, ms, e1, e2, e3, e4, e5⟩ := drawG_trace hG' h
      refine ⟨d :: ds, T', m', h0, by simp [h1], fun i => match i with | 0 => T | i + 1 => Ts i, fun i => match i with | 0 => m | i + 1 => ms i, rfl, rfl, e3, e4, ?_⟩
      intro j o' ho
      cases j with
      | zero =>
        simp only [List.getElem?_cons_zero, Option.some.injEq] at ho
        subst ho
        refine ⟨d, _, rfl, applyG_ref (hG.only _ _), ?_, e1, ?_, ?_, ?_⟩
        · simp only [e2]; exact hd
        · simp only [e2]
        · simp only [e2]; exact Nat.le_of_ble_eq_true hn
        · simp only [e2]
      | succ j =>
        simp only [List.getElem?_cons_succ] at ho
        obtain ⟨d', T0, k1, k2, k3, k4, k5, k6, k7⟩ := e5 j o' ho
        exact ⟨d', T0, by simpa using k1, k2, k3, k4, k5, k6, k7⟩
    · exact h.elim

inductive Anc (ops : Array Oper) : Nat → Nat → Prop where
  | one {i j : Nat} {o : Oper} : ops[j]? = some o → i ∈ predsS o → Anc ops i j
  | more {i k j : Nat} {o : Oper} : ops[j]? = some o → k ∈ predsS o → Anc ops i k → Anc ops i j

theorem mem_catN {α : Type} {f : α → List Nat} {n : Nat} : ∀ {l : List α}, n ∈ catN f l → ∃ a ∈ l, n ∈ f a
  | [], h => by simp [catN_nil] at h
  | a :: l, h => by
    simp only [catN_cons, List.mem_append] at h
    rcases h with h | h
    · exact ⟨a, List.mem_cons_self .., h⟩
    · obtain ⟨b, h1, h2⟩ := mem_catN h
      exact ⟨b, List.mem_cons_of_mem _ h1, h2⟩
theorem ordered_ok {an : List Nat} {d : DRec} : ∀ {done : List DRec} {n : Nat}, orderS.ordered an done n d = true → done.length = n → ∀ i x, i < n → done[n - 1 - i]? = some x → clash x d = true → i ∈ an
  | [], n, _, hl, i, x, hi, _, _ => by simp at hl; omega
  | y :: l, n, h, hl, i, x, hi, hx, hc => by
    simp only [orderS.ordered, Bool.and_eq_true] at h
    simp only [List.length_cons] at hl
    by_cases e : i = n - 1
    · have e0 : n - 1 - i = 0 := by omega
      rw [e0] at hx
      simp only [List.getElem?_cons_zero, Option.some.injEq] at hx
      subst hx
      have h1 := h.1
      rw [hc] at h1
      simp only [Bool.not_true, Bool.false_or] at h1
      rw [e]
      exact memB_iff.1 h1
    · have e0 : n - 1 - i = (n - 1 - 1 - i) + 1 := by omega
      rw [e0, List.getElem?_cons_succ] at hx
      exact ordered_ok h.2 (by omega) i x (by omega) hx hc
theorem orderS_ok {ops : Array Oper} {all : List DRec} : ∀ {l : List Oper} {n : Nat} {tab : List (List Nat)}, l = ops.toList.drop n → n ≤ all.length → orderS (all.take n).reverse tab n l (all.drop n) = true → tab.length = n →
    (∀ p an, p < n → nth tab (n - 1 - p) = some an → ∀ i ∈ an, Anc ops i p) →
    ∀ j d o, n ≤ j → all[j]? = some d → ops[j]? = some o → (∀ e ∈ o.after.toList, Region.binds .any e = true → e.on < j) ∧ ∀ i x, i < j → all[i]? = some x → clash x d = true → Anc ops i j
  | [], n, tab, hl, _, _, _, _, j, d, o, hj, _, ho => by
    have := congrArg List.length hl
    simp only [List.length_nil, List.length_drop, Array.length_toList] at this
    have hlt : j < ops.size := by
      rcases Nat.lt_or_ge j ops.size with h | h
      · exact h
      · rw [Array.getElem?_eq_none h] at ho; cases ho
    omega
  | o0 :: l, n, tab, hl, hn, h, htl, ht, j, d, o, hj, hd, ho => by
    cases hal : all.drop n with
    | nil => rw [hal] at h; simp [orderS] at h
    | cons d0 ds =>
      rw [hal] at h
      simp only [orderS, Bool.and_eq_true] at h
      obtain ⟨⟨h1, h2⟩, h3⟩ := h
      have hn' : n < all.length := by
        have := congrArg List.length hal
        simp only [List.length_drop, List.length_cons] at this
        omega
      have hd0 : all[n]? = some d0 := by
        have := congrArg (·[0]?) hal
        simpa using this
      have ho0 : ops[n]? = some o0 := by
        have := congrArg (·[0]?) hl
        simpa using this.symm
      have hds : ds = all.drop (n + 1) := by
        have := congrArg (List.drop 1) hal
        simpa using this.symm
      have hl' : l = ops.toList.drop (n + 1) := by
        have := congrArg (List.drop 1) hl
        simpa using this
      have hanc : ∀ i ∈ ancS tab n o0, Anc ops i n := by
        intro i hi
        unfold ancS at hi
        rcases List.mem_append.1 hi with hi | hi
        · exact .one ho0 hi
        · obtain ⟨p, hp, hi⟩ := mem_catN hi
          have hpn : p < n := by
            unfold predsS at hp
            obtain ⟨e, he, rfl⟩ := List.mem_map.1 hp
            have hb := (List.mem_filter.1 he).2
            have := allB_iff.1 h1 e (List.mem_filter.1 he).1
            rw [hb] at this
            simpa using this
          split at hi
          · rename_i an han
            exact .more ho0 hp (ht p an hpn han i hi)
          · cases hi
      by_cases e : j = n
      · subst e
        rw [hd0] at hd
        cases hd
        rw [ho0] at ho
        cases ho
        refine ⟨fun e he hb => by have := allB_iff.1 h1 e he; rw [hb] at this; simpa using this, fun i x hi hx hc => hanc i ?_⟩
        refine ordered_ok h2 (by simp; omega) i x hi ?_ hc
        rw [List.getElem?_reverse (by simp; omega)]
        simp only [List.length_take]
        have e1 : min j all.length - 1 - (j - 1 - i) = i := by omega
        rw [e1, List.getElem?_take, if_pos hi]
        exact hx
      · refine orderS_ok hl' (by omega) (tab := ancS tab n o0 :: tab) ?_ (by simp [htl]) ?_ j d o (by omega) hd ho
        · rw [← hds]
          have e1 : (all.take (n + 1)).reverse = d0 :: (all.take n).reverse := by
            rw [List.take_succ_eq_append_getElem hn', List.reverse_append]
            have : all[n] = d0 := by
              have := List.getElem?_eq_getElem hn'
              rw [hd0] at this
              exact (Option.some.inj this).symm
            simp [this]
          rw [e1]
          exact h3
        · intro p an hp han i hi
          by_cases ep : p = n
          · subst ep
            have e0 : p + 1 - 1 - p = 0 := by omega
            rw [e0] at han
            simp only [nth_zero, Option.some.injEq] at han
            subst han
            exact hanc i hi
          · have e0 : n + 1 - 1 - p = (n - 1 - p) + 1 := by omega
            rw [e0] at han
            simp only [nth_succ] at han
            exact ht p an (by omega) han i hi
end Go.Proofs.YtjjeahnbppmigaaDoor
