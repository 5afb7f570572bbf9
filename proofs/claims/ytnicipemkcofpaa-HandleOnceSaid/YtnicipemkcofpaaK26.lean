/- Loops over maps of which the keys are not known: the iterator's steps. No condition. -/
import Derived.Test.YtnicipemkcofpaaK24
import Derived.Test.YtnicipemkcofpaaK15
import Derived.Maps.RangeRun
set_option linter.unusedVariables false
set_option linter.unusedSimpArgs false
namespace Go.Proofs.Ytnicipemkcofpaa
open Go.ChangeMaps (setBlock)
section
variable {P : Program} {A : SV → SMem → Prop} {base : Nat} {f : SFr} {cs : List SFr} {m : SMem} {ops : Array Oper} {i : Nat} {rest : List Nat} {k : List SIt} {o : Oper}
/-- An operation is done, of which it is known what it does to any world. -/
theorem Good.op (htd : f.todo = .it (.inRegion ops (i :: rest)) :: k) (hmd : f.md = .run) (ho : ops[i]? = some o) (hg : o.guard = none) (hnd : notDefer o.op = true)
    (H : ∀ (n0 : Nat) (F : Nat → Prop) (w0 w : World) (R : Ren) (a : Act), TmOk R f.tm a → Rel n0 F w0 R m w → ∃ s m' R' w' v, Good P A base ({ f with tm := dstS f.tm o.dst s, todo := .it (.inRegion ops rest) :: k } :: cs) m' ∧ ExtN w w' m.next m'.next R R' ∧ Rel n0 F w0 R' m' w' ∧ s.ok R' v ∧ Ends P a o w w' v) :
    Good P A base (f :: cs) m := by
  intro n0 F w0 ws w Rs R fr frs hf hR hX hs
  obtain ⟨hf, hcs⟩ := hf
  have hT := hf.tm
  obtain ⟨fn, tmps, td, ds, md, kind, ro⟩ := fr
  have h5 := hf.md
  rw [hmd] at h5
  obtain rfl : md = .run := h5
  have h3 := hf.todo
  rw [htd] at h3
  cases td with
  | nil => exact h3.elim
  | cons y ys =>
    have hy : y = .inRegion ops (i :: rest) := h3.1
    subst hy
    obtain ⟨s, m', R', w', v, g1, g2, g3, g4, g5⟩ := H n0 F w0 w R ⟨tmps, ds⟩ hT hR
    have hfin : f.finish s = some { f with tm := dstS f.tm o.dst s, todo := .it (.inRegion ops rest) :: k } := by
      unfold SFr.finish
      rw [htd]
      dsimp only
      rw [nth_eq, Array.getElem?_toList, ho]
    obtain ⟨k1, k2⟩ := finish_ok hfin (FrOk.mono g2.1 hf) g4
    have hw : Region.wanted o (yielded ops tmps) = true := by unfold Region.wanted; rw [hg]
    have := g1 n0 F w0 ws w' Rs R' _ _ ⟨k1, FrsOk.mono g2.1 hcs⟩ g3 (hX.trans g2) hs
    rw [lastFn_head k2] at this
    exact this.one fun dd => st_value ho hw (.inr hnd) g5
/-- What is told of an object is told otherwise. -/
theorem Rel.tellX {n0 : Nat} {F : Nat → Prop} {w0 w : World} {R : Ren} (h : Rel n0 F w0 R m w) {id : Nat} {x y : XO} (hx : getX m.xs id = some x) (hy : y.own = false) (hok : ∀ g o, R id = some g → w.heap[g.b]? = some o → x.ok R o → y.ok R o) :
    Rel n0 F w0 R ⟨m.next, m.bl, putX m.xs id y⟩ w := by
  refine ⟨h.inj, h.lt, h.nx, h.blk, h.base, h.fr, fun j z hz => ?_, fun a b ga gb u v h1 h2 h3 h4 h5 => ?_, h.gl⟩
  · have hz : getX (putX m.xs id y) j = some z := hz
    rw [getX_put] at hz
    split at hz
    · rename_i e
      subst e
      rw [hx] at hz
      cases hz
      obtain ⟨g, o, k1, k2, k3, _⟩ := h.xo _ _ hx
      exact ⟨g, o, k1, k2, hok g o k1 k2 k3, fun e => by rw [hy] at e; cases e⟩
    · exact h.xo j z hz
  · have old : ∀ {i z}, getX (putX m.xs id y) i = some z → ∃ z', getX m.xs i = some z' := by
      intro i z hz
      rw [getX_put] at hz
      split at hz
      · rename_i e; exact ⟨x, e ▸ hx⟩
      · exact ⟨z, hz⟩
    obtain ⟨u', hu⟩ := old h4
    obtain ⟨v', hv⟩ := old h5
    exact h.xi a b ga gb u' v' h1 h2 h3 hu hv
noncomputable def itPtr (id : Nat) : SV := .s (.c (.f (.ptr id (.l 0))))
theorem Good.range {t kt et : TypeId} {x : Operand} {mid : Nat} {wr : Bool} {kk : IntKind} {vk : VK} {es : List (Int × Int)} (htd : f.todo = .it (.inRegion ops (i :: rest)) :: k) (hmd : f.md = .run) (ho : ops[i]? = some o) (hg : o.guard = none) (hop : o.op = .range t x)
    (hx : ev f.tm x = some (.s (.c (.f (.mp mid))))) (ht : P.underlying t = some (.map kt et)) (hm : getX m.xs mid = some (.mapI wr kk vk es))
    (H : ∀ (l : Array MapEntry) (clock : Nat), KV l.toList = es.map (encE kk vk) → BornOk l clock → Good P A base ({ f with tm := dstS f.tm o.dst (itPtr m.next), todo := .it (.inRegion ops rest) :: k } :: cs) (SMem.newX ⟨m.next, m.bl, putX m.xs mid (.mapE l clock)⟩ (.iter mid clock #[] clock))) :
    Good P A base (f :: cs) m := by
  refine Good.op htd hmd ho hg (by rw [hop]; rfl) fun n0 F w0 w R a hT hR => ?_
  obtain ⟨g, hg', ex⟩ := ev_ok hT hx
  obtain ⟨g', ob, k1, k2, ⟨l, c, rfl, hl, hbo⟩, _⟩ := hR.xo mid _ hm
  rw [hg'] at k1
  cases k1
  have hR1 := hR.tellX (y := .mapE l c) hm rfl (fun g2 o2 e1 e2 _ => by
    rw [hg'] at e1
    cases e1
    rw [k2] at e2
    cases e2
    rfl)
  obtain ⟨R', j1, j2, j3⟩ := hR1.newX (x := .iter mid c #[] c) (o := .mapIter (some g.b) c #[] c) ⟨g, hg', rfl⟩
  refine ⟨itPtr m.next, _, R', _, .pointer (some ⟨w.heap.size, 0, none⟩), H l c hl hbo, j1, j3, ⟨_, j2, rfl⟩, .inl ?_⟩
  have hr := run_range_map (P := P) w t kt et g.b l c ht k2
  rw [← ex] at hr
  simp [execOp, hop, hr]
theorem Good.next {x : Operand} {it mid since last c : Nat} {seen : Array Nat} {l : Array MapEntry} (htd : f.todo = .it (.inRegion ops (i :: rest)) :: k) (hmd : f.md = .run) (ho : ops[i]? = some o) (hg : o.guard = none) (hop : o.op = .next x false)
    (hx : ev f.tm x = some (itPtr it)) (hi : getX m.xs it = some (.iter mid since seen last)) (hm : getX m.xs mid = some (.mapE l c)) (hold : ∀ e ∈ l.toList, e.born < since) (hsl : since ≤ last) (hone : ∀ e ∈ l.toList, e.key.oneCell' = true ∧ e.val.oneCell' = true)
    (H1 : Good P A base ({ f with tm := dstS f.tm o.dst (.tup [.c (.f (.bool (.l false)))]), todo := .it (.inRegion ops rest) :: k } :: cs) m)
    (H2 : ∀ e ∈ (leftOf l seen).toList, Good P A base ({ f with tm := dstS f.tm o.dst (.tup [.c (.f (.bool (.l true))), .c (.f (.opq e.key)), .c (.f (.opq e.val))]), todo := .it (.inRegion ops rest) :: k } :: cs) ⟨m.next, m.bl, putX m.xs it (.iter mid since (seen.push e.born) c)⟩) :
    Good P A base (f :: cs) m := by
  refine Good.op htd hmd ho hg (by rw [hop]; rfl) fun n0 F w0 w R a hT hR => ?_
  obtain ⟨g, hg', ex⟩ := ev_ok hT hx
  obtain ⟨gm, om, q1, q2, q3, _⟩ := hR.xo mid _ hm
  have q3 : om = .map l c := q3
  subst q3
  obtain ⟨g', ob, k1, k2, ⟨g2, e1, rfl⟩, kset, _⟩ := hR.setX hi rfl
  rw [hg'] at k1
  cases k1
  rw [q1] at e1
  cases e1
  have ex : a.eval x = .pointer (some ⟨g.b, 0, none⟩) := ex
  rcases run_next_at (P := P) w o.type g.b gm.b since last seen l c k2 q2 hold hsl with ⟨_, hr⟩ | ⟨e, he, w1, hw1, hr⟩
  · refine ⟨_, m, R, w, _, H1, ExtN.refl _ _ R, hR, ⟨#[.bool false], rfl, rfl, trivial⟩, .inl ?_⟩
    rw [← ex] at hr
    simp [execOp, hop, hr]
  · have hel : e ∈ l.toList := by
      unfold leftOf at he
      simp at he ⊢
      exact he.1
    have hk := kset (.iter mid since (seen.push e.born) c) (.mapIter (some gm.b) since (seen.push e.born) c) ⟨gm, q1, rfl⟩
    rw [← ex] at hr
    obtain ⟨h1, h2⟩ := hone e hel
    have hv : (SV.tup [.c (.f (.bool (.l true))), .c (.f (.opq e.key)), .c (.f (.opq e.val))]).ok R (.tuple #[.bool true, e.key, e.val]) := ⟨_, rfl, rfl, ⟨rfl, h1⟩, ⟨rfl, h2⟩, trivial⟩
    rcases hw1 with rfl | rfl
    · refine ⟨_, _, R, _, _, H2 e he, ExtN.same _ R (by simp), hk, hv, .inl ?_⟩
      simp only [execOp, hop]
      simp [hr, World.putObj, setBlock]
    · refine ⟨_, _, R, _, _, H2 e he, ExtN.same _ R (by simp), hk.drew, hv, .inl ?_⟩
      simp only [execOp, hop]
      have e1 : World.putObj w.drew g.b (.mapIter (some gm.b) since (seen.push e.born) c) = setBlock w.drew g.b (.mapIter (some gm.b) since (seen.push e.born) c) := rfl
      have e2 : (w.putObj g.b (.mapIter (some gm.b) since (seen.push e.born) c)).drew = setBlock w.drew g.b (.mapIter (some gm.b) since (seen.push e.born) c) := rfl
      rw [e2]
      simp [hr]
theorem Good.entry {x : Operand} {it mid since c : Nat} {seen : Array Nat} {l : Array MapEntry} {e : MapEntry} {ks vs : S1} (htd : f.todo = .it (.inRegion ops (i :: rest)) :: k) (hmd : f.md = .run) (ho : ops[i]? = some o) (hg : o.guard = none) (hop : o.op = .entry x)
    (hx : ev f.tm x = some (itPtr it)) (hi : getX m.xs it = some (.iter mid since (seen.push e.born) c)) (hm : getX m.xs mid = some (.mapE l c)) (he : e ∈ l.toList) (hn : (l.toList.map (·.born)).Nodup) (hk : ∀ R, ks.ok R e.key) (hv : ∀ R, vs.ok R e.val)
    (H : Good P A base ({ f with tm := dstS f.tm o.dst (.tup [ks, vs]), todo := .it (.inRegion ops rest) :: k } :: cs) m) :
    Good P A base (f :: cs) m := by
  refine Good.op htd hmd ho hg (by rw [hop]; rfl) fun n0 F w0 w R a hT hR => ?_
  obtain ⟨g, hg', ex⟩ := ev_ok hT hx
  obtain ⟨gm, om, q1, q2, q3, _⟩ := hR.xo mid _ hm
  have q3 : om = .map l c := q3
  subst q3
  obtain ⟨g', ob, k1, k2, ⟨g2, e1, rfl⟩, _⟩ := hR.xo it _ hi
  rw [hg'] at k1
  cases k1
  rw [q1] at e1
  cases e1
  have ex : a.eval x = .pointer (some ⟨g.b, 0, none⟩) := ex
  have hr := run_entry_at (P := P) w g.b gm.b since seen l c e k2 q2 he hn
  rw [← ex] at hr
  exact ⟨_, m, R, w, .tuple #[e.key, e.val], H, ExtN.refl _ _ R, hR, ⟨_, rfl, hk R, hv R, trivial⟩, .inl (by simp [execOp, hop, hr])⟩
/-- An operation is done: its slot is told, and what is left to do. -/
noncomputable def rgStep (d : Nat) (v : SV) (fs : List SFr) : List SFr := match fs with
  | f :: cs => { f with tm := f.tm.set d (some v), todo := (match f.todo with | .it (.inRegion ops (_ :: rest)) :: k => .it (.inRegion ops rest) :: k | t => t) } :: cs
  | [] => []
/-- One stops at an iterator's operations. -/
noncomputable def itHalt (x : SIt) : Bool := match x with
  | .it (.inRegion ops (i :: _)) => match nth ops.toList i with
    | some o => (match o.op with
      | .range _ _ => true
      | .next _ _ => true
      | .entry _ => true
      | _ => false)
    | none => false
  | _ => false
/-- One left less. -/
theorem left_push {l : Array MapEntry} {seen : Array Nat} {e : MapEntry} (he : e ∈ (leftOf l seen).toList) : (leftOf l (seen.push e.born)).size < (leftOf l seen).size := by
  unfold leftOf at *
  have he' : e ∈ l.toList ∧ (!seen.contains e.born) = true := by simpa using he
  have hf : ∀ p : MapEntry → Bool, (l.filter p).size = (l.toList.filter p).length := fun p => by rw [← Array.length_toList, Array.toList_filter]
  rw [hf, hf]
  generalize l.toList = r at he'
  have : ∀ r : List MapEntry, (r.filter fun x => !(seen.push e.born).contains x.born) = (r.filter fun x => !seen.contains x.born).filter fun x => !(x.born == e.born) := by
    intro r
    rw [List.filter_filter]
    congr 1
    funext x
    by_cases h : x.born = e.born <;> simp [h]
  rw [this]
  have hm : e ∈ r.filter fun x => !seen.contains x.born := List.mem_filter.2 he'
  refine List.length_filter_lt_length_iff_exists.2 ⟨e, hm, by simp⟩
end
end Go.Proofs.Ytnicipemkcofpaa
