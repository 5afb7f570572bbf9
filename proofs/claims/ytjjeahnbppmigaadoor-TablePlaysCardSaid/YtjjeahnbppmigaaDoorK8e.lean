/- An item is met; the machine's steps. No condition. -/
import Derived.Test.YtjjeahnbppmigaaDoorK8d
set_option linter.unusedVariables false
set_option linter.unusedSimpArgs false
namespace Go.Proofs.YtjjeahnbppmigaaDoor
set_option linter.unusedSectionVars false
variable [Gh]

section
variable {E : Env} (hE : EnvOk E) {r : Nat → List SFr → SMem → Tree} (hd : DrawOk E r) {A : SV → SMem → Prop} {B : List SFr → SMem → Prop} {n0 : Nat} {F : Nat → Prop} {w0 ws : World} {Rs : Ren} {base : Nat} {f0 : FuncId} {Φ : Value → World → Prop}
variable {f : SFr} {cs : List SFr} {m : SMem} {w : World} {R : Ren} {fn : FuncId} {tmps : Array Value} {ds : List Deferred} {kind : CallKind} {ro : Option Nat} {frs : List Frame} {ys : List Item}
include hE in
set_option maxHeartbeats 1000000 in
theorem rangeT_ok {r : List SFr → SMem → Tree} (on : On E r A B n0 F w0 ws Rs base f0 Φ) {g : Operand} {ps : Array Tmp} {as bd : Code} {k : List SIt} (hf : FrOk R f ⟨fn, tmps, .code (.rangeFunc g ps as bd) :: ys, ds, .run, kind, ro⟩) (hys : All2 (ItOk R) k ys) (hcs : All2 (FrOk R) cs frs) (hl : lastFn (f :: cs) = f0) (hR : Rel n0 F w0 R m w)
    (hX : ExtN ws w base m.next Rs R) (hmd : f.md = .run) (h : (rangeT E r f k cs m g ps as bd).sat A B) : Leads E.P f0 ⟨fn, tmps, .code (.rangeFunc g ps as bd) :: ys, ds, .run, kind, ro⟩ frs w Φ := by
  have h1 : fn = f.fn := hf.fn
  have h2 : TmOkA R f.tm tmps := hf.tm
  have h4 : All2 (DfOk R) f.dfs ds := hf.dfs
  have h5 : MdOk R f.md .run := hf.md
  have h6 : kind = f.kind := hf.kind
  have h7 : RndOk R f.rnd ro := hf.rnd
  have hT : TmOk R f.tm ⟨tmps, ds⟩ := h2
  unfold rangeT at h
  split at h
  · rename_i hfn a b hev
    obtain ⟨xa, yb, e, ha, hb⟩ := ev_ok hT hev
    split at h
    · rename_i hrnd
      rw [hrnd] at h7
      obtain rfl : ro = _ := h7
      obtain ⟨R1, x1, r1, rel1⟩ := hR.newX (x := .defr) (o := .deferred (some [])) rfl
      have hsz : (w.alloc (.deferred (some []))).heap.size = w.heap.size + 1 := by simp
      have hst := fun dd => st_range (P := E.P) (fn := fn) (tmps := tmps) (k := ys) (ds := ds) (kind := kind) (cs := frs ++ dd) (w := w) (ps := ps) (as := as) (bd := bd) (hf := (E.fn hfn).getD default) e
      generalize hW1 : w.alloc (.deferred (some [])) = W1 at *
      obtain ⟨R2, x2, r2, rel2⟩ := rel1.newX (x := .loop .ready none f.fn f.tm ps as bd m.next) (o := .loop { state := .ready, pending := none, fn := fn, tmps := tmps, params := ps, assign := as, body := bd, defers := w.heap.size })
        ⟨tmps, _, r1, TmOkA.mono x1.1 h2, by rw [h1]⟩
      generalize hW2 : W1.alloc (.loop { state := .ready, pending := none, fn := fn, tmps := tmps, params := ps, assign := as, body := bd, defers := w.heap.size }) = W2 at *
      have ext : ExtN w W2 m.next (m.next + 2) R R2 := x1.trans x2
      have r2' : R2 (m.next + 1) = some ⟨w.heap.size + 1, 0⟩ := by rw [← hsz]; exact r2
      have r1' : R2 m.next = some ⟨w.heap.size, 0⟩ := x2.1 _ _ r1
      have hfc : FrOk R2 { f with todo := .inR (m.next + 1) :: k, dfs := .col m.next :: f.dfs } ⟨fn, tmps, .inRangeFunc (w.heap.size + 1) :: ys, { target := .collected w.heap.size, args := #[] } :: ds, .run, kind, none⟩ :=
        ⟨h1, TmOkA.mono ext.1 h2, ⟨⟨_, r2', rfl⟩, hys.mono fun _ _ => ItOk.mono ext.1⟩, ⟨⟨_, r1', rfl⟩, h4.mono fun _ _ => DfOk.mono ext.1⟩, MdOk.mono ext.1 h5, h6, by rw [hrnd]; rfl⟩
      have hX2 : ExtN ws W2 base (m.next + 2) Rs R2 := hX.trans ext
      obtain ⟨hfd, hfd1, hfd2, hgo⟩ := On.enter hE on h (by rw [← hl]; exact lastFn_head (by rfl) cs) hfc (FrsOk.mono ext.1 hcs) rel2 hX2
      have hargs : All2 (SV.ok R2) (a.map (fun x => SV.s (.c (.f x))) ++ [.s (.c (.yl (m.next + 1)))] ++ b.map fun x => SV.s (.c (.f x))) (xa ++ #[Value.func (.yield (w.heap.size + 1)) #[] #[]] ++ yb).toList := by
        simp only [Array.toList_append]
        exact All2.append (All2.append (All2.map (ha.mono fun _ _ => SF.mono ext.1)) ⟨⟨_, r2', rfl⟩, trivial⟩) (All2.map (hb.mono fun _ _ => SF.mono ext.1))
      refine (hgo _ hargs).one fun dd => ?_
      refine hst dd ?_ ?_ ?_
      · rw [hfd1]; exact (hE.fns _ _ hfd1).1
      · rw [hfd1]; exact (hE.fns _ _ hfd1).2
      · rw [hfd1]; exact hfd2
    · rename_i l0 hrnd
      rw [hrnd] at h7
      obtain ⟨g0, hg0, rfl⟩ := h7
      split at h
      · rename_i dl hx
        obtain ⟨g', o, k1, k2, ⟨ltm, gd, k3, k4, rfl⟩, _⟩ := hR.xo l0 _ hx
        rw [hg0] at k1
        cases k1
        have hst := fun dd => st_rangeIn (P := E.P) (fn := fn) (tmps := tmps) (k := ys) (ds := ds) (kind := kind) (cs := frs ++ dd) (w := w) (ps := ps) (as := as) (bd := bd) (hf := (E.fn hfn).getD default) k2 e
        obtain ⟨R2, x2, r2, rel2⟩ := hR.newX (x := .loop .ready none f.fn f.tm ps as bd dl) (o := .loop { state := .ready, pending := none, fn := fn, tmps := tmps, params := ps, assign := as, body := bd, defers := gd.b })
          ⟨tmps, _, k3, h2, by rw [h1]⟩
        dsimp only at hst
        generalize hW2 : w.alloc (.loop { state := .ready, pending := none, fn := fn, tmps := tmps, params := ps, assign := as, body := bd, defers := gd.b }) = W2 at *
        have hfc : FrOk R2 { f with todo := .inR m.next :: k } ⟨fn, tmps, .inRangeFunc w.heap.size :: ys, ds, .run, kind, some g0.b⟩ :=
          ⟨h1, TmOkA.mono x2.1 h2, ⟨⟨_, r2, rfl⟩, hys.mono fun _ _ => ItOk.mono x2.1⟩, h4.mono fun _ _ => DfOk.mono x2.1, MdOk.mono x2.1 h5, h6, by rw [hrnd]; exact ⟨g0, x2.1 _ _ hg0, rfl⟩⟩
        have hX2 : ExtN ws W2 base (m.next + 1) Rs R2 := hX.trans x2
        obtain ⟨hfd, hfd1, hfd2, hgo⟩ := On.enter hE on h (by rw [← hl]; exact lastFn_head (by rfl) cs) hfc (FrsOk.mono x2.1 hcs) rel2 hX2
        have hargs : All2 (SV.ok R2) (a.map (fun x => SV.s (.c (.f x))) ++ [.s (.c (.yl m.next))] ++ b.map fun x => SV.s (.c (.f x))) (xa ++ #[Value.func (.yield w.heap.size) #[] #[]] ++ yb).toList := by
          simp only [Array.toList_append]
          exact All2.append (All2.append (All2.map (ha.mono fun _ _ => SF.mono x2.1)) ⟨⟨_, r2, rfl⟩, trivial⟩) (All2.map (hb.mono fun _ _ => SF.mono x2.1))
        refine (hgo _ hargs).one fun dd => ?_
        refine hst dd ?_ ?_ ?_
        · rw [hfd1]; exact (hE.fns _ _ hfd1).1
        · rw [hfd1]; exact (hE.fns _ _ hfd1).2
        · rw [hfd1]; exact hfd2
      · exact h.elim
  · exact h.elim
include hE hd in
set_option maxHeartbeats 1000000 in
theorem itemT_ok (on : On E (r base) A B n0 F w0 ws Rs base f0 Φ) (hs : ∀ i g, Rs i = some g → i < base) {x : Item} {k : List SIt} (hmd : f.md = .run) (htd : f.todo = .it x :: k) (hf : FrOk R f ⟨fn, tmps, x :: ys, ds, .run, kind, ro⟩) (hys : All2 (ItOk R) k ys) (hcs : All2 (FrOk R) cs frs) (hl : lastFn (f :: cs) = f0) (hR : Rel n0 F w0 R m w) (hX : ExtN ws w base m.next Rs R)
    (h : (itemT E r base f k cs m x).sat A B) : Leads E.P f0 ⟨fn, tmps, x :: ys, ds, .run, kind, ro⟩ frs w Φ := by
  have h1 : fn = f.fn := hf.fn
  have h2 : TmOkA R f.tm tmps := hf.tm
  have h4 : All2 (DfOk R) f.dfs ds := hf.dfs
  have h5 : MdOk R f.md .run := hf.md
  have h6 : kind = f.kind := hf.kind
  have h7 : RndOk R f.rnd ro := hf.rnd
  have to : ∀ {k' : List SIt} {ys' : List Item}, (r base ({ f with todo := k' } :: cs) m).sat A B → All2 (ItOk R) k' ys' → Leads E.P f0 ⟨fn, tmps, ys', ds, .run, kind, ro⟩ frs w Φ := fun h hk =>
    on h (by rw [← hl]; exact lastFn_head (by rfl) cs) ⟨⟨h1, h2, hk, h4, h5, h6, h7⟩, hcs⟩ hR hX
  have hT : TmOk R f.tm ⟨tmps, ds⟩ := h2
  unfold itemT at h
  dsimp only [itemT_a5, itemT_a6, itemT_a7, itemT_a8, itemT_a9, itemT_a10, itemT_a11, itemT_a12, itemT_a13, itemT_a16] at h
  split at h
  · exact leave_ok on hf hcs hl hR hX h (.inr (.inl ⟨ys, rfl, rfl, rfl⟩))
  · exact (to h hys).one fun dd => st_skip
  · exact (to h hys).one fun dd => st_label
  · exact (to h hys).one fun dd => st_inBlock
  · exact (to h hys).one fun dd => st_inScope
  · rename_i a b
    exact (to (ys' := .code a :: .code b :: ys) h ⟨rfl, rfl, hys⟩).one fun dd => st_seq
  · rename_i c x y
    split at h
    · rename_i t ht
      have hc : Act.eval ⟨tmps, ds⟩ c = .bool t.den := ev_ok hT ht
      obtain ⟨e1, e2⟩ := Tree.sat_ite h
      cases e : t.den with
      | true => exact (on (fr' := ⟨fn, tmps, .code x :: ys, ds, .run, kind, ro⟩) (e1 e) (by rw [← hl]; exact lastFn_head (by rfl) cs) ⟨⟨h1, knowC_ok hT ht e, ⟨rfl, hys⟩, h4, h5, h6, h7⟩, hcs⟩ hR hX).one fun dd => st_cond (t := true) (by rw [hc, e])
      | false => exact (on (fr' := ⟨fn, tmps, .code y :: ys, ds, .run, kind, ro⟩) (e2 e) (by rw [← hl]; exact lastFn_head (by rfl) cs) ⟨⟨h1, knowC_ok hT ht e, ⟨rfl, hys⟩, h4, h5, h6, h7⟩, hcs⟩ hR hX).one fun dd => st_cond (t := false) (by rw [hc, e])
    · exact h.elim
  · rename_i id b
    exact (to (ys' := .code b :: .inBlock id :: ys) h ⟨rfl, rfl, hys⟩).one fun dd => st_block
  · rename_i b
    exact (to (ys' := .code b :: .inLoop b :: ys) h ⟨rfl, rfl, hys⟩).one fun dd => st_loop
  · rename_i b
    exact (to (ys' := .code b :: .inLoop b :: ys) h ⟨rfl, rfl, hys⟩).one fun dd => st_inLoop
  · rename_i b
    exact (to (ys' := .code b :: .inScope b :: ys) h ⟨rfl, rfl, hys⟩).one fun dd => st_scope
  · rename_i id
    have hex := exitS_ok (id := id) hys
    split at h
    · rename_i k' hk'
      rw [hk'] at hex
      obtain ⟨l', e1, e2⟩ := hex
      exact (to h e2).one fun dd => st_exit e1
    · rename_i hk'
      rw [hk'] at hex
      exact leave_ok on hf hcs hl hR hX h (.inr (.inr ⟨id, ys, rfl, hex, rfl, rfl⟩))
  · rename_i id ops
    exact (to (ys' := .inRegion ops (List.range ops.size) :: ys) h ⟨rfl, hys⟩).one fun dd => st_region
  · rename_i id ops
    split at h
    · rename_i hnd
      have hro : ro = none ∨ noDefer ops.toList = true := by
        cases hrnd : f.rnd with
        | none =>
          rw [hrnd] at h7
          exact .inl h7
        | some l =>
          rw [hrnd] at hnd
          exact .inr hnd
      obtain ⟨T', m', k1, k2⟩ := hd id _ base ops f.tm m n0 F w0 w R ⟨tmps, ds⟩ _ A B h hT hR
      intro dd
      obtain ⟨a', w', R', ⟨e1, e1n⟩, e2, e3, e4, e5⟩ := k2 ⟨fn, #[], [], [], .run, kind, ro⟩ hro ys (frs ++ dd)
      have hX' : ExtN ws w' base m'.next Rs R' := by
        refine ⟨hX.1.trans e1.1, fun i g hi => ?_, Nat.le_trans hX.2.2.1 e1.2.2, Nat.le_trans hX.2.2.2 e1n⟩
        rcases e1.2.1 i g hi with h1 | ⟨h1, h2 | ⟨j, h2, h3⟩⟩
        · exact hX.2.1 i g h1
        · exact .inr ⟨Nat.le_trans hX.2.2.1 h2, Nat.le_trans hX.2.2.2 h1⟩
        · rcases hX.2.1 j g h3 with h4 | ⟨h4, _⟩
          · have := hs j g h4; omega
          · exact .inr ⟨h4, Nat.le_trans hX.2.2.2 h1⟩
      obtain ⟨tm', ds'⟩ := a'
      have e3 : ds' = ds := e3
      subst e3
      obtain ⟨v, w2, e, j1, j2, j3⟩ := on (fr' := ⟨fn, tm', ys, ds', .run, kind, ro⟩) k1 (by rw [← hl]; exact lastFn_head (by rfl) cs) ⟨⟨h1, e2, hys.mono fun _ _ => ItOk.mono e1.1, h4.mono fun _ _ => DfOk.mono e1.1, MdOk.mono e1.1 h5, h6, RndOk.mono e1.1 h7⟩, FrsOk.mono e1.1 hcs⟩ e4 hX' dd
      exact ⟨v, w2, e, j1, Steps.trans e5 j2, j3⟩
    · exact h.elim
  · rename_i g ps as bd
    exact rangeT_ok hE on hf hys hcs hl hR hX hmd h
  · unfold beginT at h
    split at h
    · rename_i l hrnd
      rw [hrnd] at h7
      obtain ⟨g, hg, rfl⟩ := h7
      split at h
      · rename_i pend lfn tm ps as bd dl hx
        obtain ⟨g', o, k1, k2, ⟨ltm, gd, k3, k4, rfl⟩, kset, _⟩ := hR.setX hx rfl
        rw [hg] at k1
        cases k1
        exact (on (fr' := ⟨fn, tmps, ys, ds, .run, kind, some g.b⟩) h (by rw [← hl]; exact lastFn_head (by rfl) cs) ⟨⟨h1, h2, hys, h4, h5, h6, by rw [hrnd]; exact ⟨g, hg, rfl⟩⟩, hcs⟩ (kset (.loop .busy pend lfn tm ps as bd dl) _ ⟨ltm, gd, k3, k4, rfl⟩) (hX.trans (ExtN.same _ R (by simp)))).one fun dd => st_begin k2 rfl
      · exact h.elim
    · exact h.elim
  · rename_i ops l
    split at h
    · exact (to h hys).one fun dd => st_region_end
    · rename_i i rest
      split at h
      · exact h.elim
      · rename_i o ho
        rw [nth_eq, Array.getElem?_toList] at ho
        split at h
        · exact h.elim
        · rename_i b hb
          have hw := want_ok hb hT
          obtain ⟨e1, e2⟩ := Tree.sat_ite h
          clear h
          cases e : b.den with
          | false =>
            have hTk := knowG_ok hT hb e
            have hf0 : FrOk R { f with tm := knowG f.tm ops.toList o false, todo := .it (.inRegion ops (i :: rest)) :: k } ⟨fn, tmps, .inRegion ops (i :: rest) :: ys, ds, .run, kind, ro⟩ := ⟨h1, hTk, ⟨rfl, hys⟩, h4, h5, h6, h7⟩
            have hfin : SFr.finish { f with tm := knowG f.tm ops.toList o false, todo := .it (.inRegion ops (i :: rest)) :: k } (.tup []) = some { f with tm := dstS (knowG f.tm ops.toList o false) o.dst (.tup []), todo := .it (.inRegion ops rest) :: k } := by
              simp only [SFr.finish, nth_eq, Array.getElem?_toList, ho]
            obtain ⟨q1, q2⟩ := finish_ok (u := undef) hfin hf0 ⟨#[], rfl, trivial⟩
            exact (on (e2 e) (by rw [← hl]; exact lastFn_head (by rfl) cs) ⟨q1, hcs⟩ hR hX).one fun dd => st_pass ho (by rw [hw, e])
          | true =>
            have hw' : Region.wanted o (yielded ops tmps) = true := by rw [hw, e]
            have hTk : TmOk R (knowG f.tm ops.toList o true) ⟨tmps, ds⟩ := knowG_ok hT hb e
            exact opT_ok hE on hs (f := { f with tm := knowG f.tm ops.toList o true, todo := .it (.inRegion ops (i :: rest)) :: k }) hmd ⟨h1, hTk, ⟨rfl, hys⟩, h4, h5, h6, h7⟩ hcs (by rw [← hl]; exact lastFn_head (by rfl) cs) hR hX ho hw' (e1 e)
  · exact h.elim
end

theorem stepT_ok {E : Env} (hE : EnvOk E) {r : Nat → List SFr → SMem → Tree} (hr : RunOk E r) (hd : DrawOk E r) : RunOk E (stepT E r) := by
  intro base fs m n0 F w0 ws w Rs R fr frs A B Φ h hfs hR hX hs hA hB
  have on : On E (r base) A B n0 F w0 ws Rs base (lastFn fs) Φ := by
    intro fs' m' w' R' fr' frs' h hl hf hR' hX'
    have := hr base fs' m' n0 F w0 ws w' Rs R' fr' frs' A B Φ h hf hR' hX' hs hA (fun fs2 m2 R2 w2 fr2 frs2 h1 h2 h3 h4 h5 => by
      rw [hl] at h2 ⊢
      exact hB fs2 m2 R2 w2 fr2 frs2 h1 h2 h3 h4 h5)
    rw [hl] at this
    exact this
  cases fs with
  | nil => exact hfs.elim
  | cons f cs =>
    obtain ⟨hf, hcs⟩ := hfs
    obtain ⟨fn, tmps, todo, ds, mode, kind, ro⟩ := fr
    simp only [stepT] at h
    split at h
    · rename_i hmd
      have h5 := hf.md
      rw [hmd] at h5
      obtain rfl : mode = _ := h5
      have h3 : All2 (ItOk R) f.todo todo := hf.todo
      split at h
      · rename_i htd
        rw [htd] at h3
        cases todo with
        | cons _ _ => exact h3.elim
        | nil => exact leave_ok on hf hcs rfl hR hX h (.inl ⟨rfl, rfl, rfl⟩)
      · rename_i x k htd
        have hat : f.atRun = f := by
          unfold SFr.atRun
          rw [← hmd]
        rw [hat] at h
        split at h
        · exact hB _ m R w _ _ h rfl hX hR ⟨hf, hcs⟩
        · rw [htd] at h3
          cases todo with
          | nil => exact h3.elim
          | cons y ys =>
            obtain ⟨hy, hys⟩ := h3
            cases x with
            | endR l =>
              obtain ⟨g, hg, rfl⟩ := hy
              exact endT_ok on hf hys hg hcs rfl hR hX h
            | inR _ => exact h.elim
            | it x =>
              obtain rfl : y = x := hy
              exact itemT_ok hE hd on hs hmd htd hf hys hcs rfl hR hX h
    · rename_i hmd
      exact unwind_ok hE on hA hf hmd hcs rfl hR hX h
end Go.Proofs.YtjjeahnbppmigaaDoor
