/- Maps of which the keys are not known: what operations on them do. No condition. -/
import Derived.Test.YtdopckcockgefaaDoorK7c
set_option linter.unusedVariables false
set_option linter.unusedSimpArgs false
namespace Go.Proofs.YtdopckcockgefaaDoor
section
variable {P : Program} {w : World}
abbrev KV (l : List MapEntry) : List (Value × Value) := l.map fun e => (e.key, e.val)
theorem sameNow_int {κ kk : IntKind} {a b : Int} : Instr.sameNow (.int κ) (.int kk a) (.int kk b) = some (decide (a = b)) := by
 simp only [Instr.sameNow, if_true]
 by_cases hab : a = b <;> simp [hab]
def posI (k : Int) : List (Int × Int) → Nat → Option (Nat × Int)
 | [], _ => none
 |(a, v) :: l, i => if a = k then some (i, v) else posI k l (i + 1)
theorem posI_look {k : Int} : ∀ {es : List (Int × Int)} {i : Nat}, (posI k es i).map (·.2) = lookI k es
 | [], _ => rfl
 |(a, v) :: l, i => by
  simp only [posI, lookI]
  split
  ·rfl
  ·exact posI_look
theorem find_I {κ kk : IntKind} {vk : VK} {k : Int} : ∀ {es : List (Int × Int)} {l : List MapEntry} {i : Nat}, KV l = es.map (encE kk vk) → Instr.findNow (.int κ) (.int kk k) l i = some ((posI k es i).map fun p => (p.1, vk.mk p.2))
 | [], [], i, _ => rfl
 | [], _ :: _, _, h => by simp at h
 | _ :: _, [], _, h => by simp at h
 |(a, v) :: es, e :: l, i, h => by
  simp only [List.map_cons, List.cons.injEq, encE, Prod.mk.injEq] at h
  obtain ⟨⟨h1, h2⟩, h3⟩ := h
  have hs : Instr.sameNow (.int κ) (.int kk k) e.key = some (decide (a = k)) := by
   rw [h1, sameNow_int]
   congr 1
   exact decide_eq_decide.2 ⟨fun h => h.symm, fun h => h.symm⟩
  simp only [posI]
  by_cases e1 : a = k
  ·rw [if_pos e1]
   simp [Instr.findNow, hs, e1, h2]
  ·rw [if_neg e1, ← find_I (κ := κ) (i := i + 1) h3]
   rw [decide_eq_false e1] at hs
   simp [Instr.findNow, hs]
theorem posI_ge {k : Int} : ∀ {es : List (Int × Int)} {i j : Nat} {v : Int}, posI k es i = some (j, v) → i ≤ j ∧ es[j - i]? = some (k, v)
 | [], _, _, _, h => by cases h
 |(a, u) :: es, i, j, v, h => by
  simp only [posI] at h
  split at h
  ·rename_i e
   cases h
   exact ⟨Nat.le_refl _, by simp [e]⟩
  ·obtain ⟨h1, h2⟩ := posI_ge h
   refine ⟨by omega, ?_⟩
   rw [show j - i = (j - (i + 1)) + 1 by omega]
   simpa using h2
theorem insI_none {k v : Int} : ∀ {es : List (Int × Int)} {i : Nat}, posI k es i = none → insI k v es = es ++ [(k, v)]
 | [], _, _ => rfl
 |(a, u) :: es, i, h => by
  simp only [posI] at h
  split at h
  ·cases h
  ·rename_i e
   simp only [insI, if_neg e, insI_none h, List.cons_append]
theorem insI_some {k v : Int} : ∀ {es : List (Int × Int)} {i j : Nat} {u : Int}, posI k es i = some (j, u) → insI k v es = es.set (j - i) (k, v)
 | [], _, _, _, h => by cases h
 |(a, u') :: es, i, j, u, h => by
  simp only [posI] at h
  split at h
  ·rename_i e
   cases h
   simp [insI, e]
  ·rename_i e
   have h1 := (posI_ge h).1
   simp only [insI, if_neg e]
   rw [insI_some h, show j - i = (j - (i + 1)) + 1 by omega, List.set_cons_succ]
theorem delI_none {k : Int} : ∀ {es : List (Int × Int)} {i : Nat}, posI k es i = none → delI k es = es
 | [], _, _ => rfl
 |(a, u) :: es, i, h => by
  simp only [posI] at h
  split at h
  ·cases h
  ·rename_i e
   simp only [delI, if_neg e, delI_none h]
theorem delI_some {k : Int} : ∀ {es : List (Int × Int)} {i j : Nat} {u : Int}, posI k es i = some (j, u) → delI k es = es.eraseIdx (j - i)
 | [], _, _, _, h => by cases h
 |(a, u') :: es, i, j, u, h => by
  simp only [posI] at h
  split at h
  ·rename_i e
   cases h
   simp [delI, e]
  ·rename_i e
   have h1 := (posI_ge h).1
   simp only [delI, if_neg e]
   rw [delI_some h, show j - i = (j - (i + 1)) + 1 by omega, List.eraseIdx_cons_succ]
theorem KV_erase (l : List MapEntry) (j : Nat) : KV (l.eraseIdx j) = (KV l).eraseIdx j := by
 induction l generalizing j with
 | nil => rfl
 | cons a r ih =>
  cases j with
  | zero => rfl
  | succ j => simp [KV] at ih ⊢; exact ih j
theorem map_erase {α β : Type} (f : α → β) : ∀ (l : List α) (j : Nat), (l.map f).eraseIdx j = (l.eraseIdx j).map f
 | [], _ => rfl
 | _ :: _, 0 => rfl
 | a :: l, j + 1 => by
  show f a :: (l.map f).eraseIdx j = f a :: (l.eraseIdx j).map f
  rw [map_erase f l j]
theorem keyT {κ : IntKind} (n : Nat) (t : TypeId) (hu : P.underlying t = some (.int κ)) (e : Bool) (k : Value) : (Instr.checkKey e (n + 1) t k).run P w = .ok () w := by
 unfold Instr.checkKey
 simp [run_underlying hu]
theorem isIntT_ok {t : TypeId} (h : isIntT P t = true) : ∃ κ, P.underlying t = some (.int κ) := by
 unfold isIntT at h
 split at h
 ·rename_i k e; exact ⟨k, e⟩
 ·cases h
variable {t kt et : TypeId} {κ kk : IntKind} {vk : VK} {k x : Int} {r clock : Nat} {l : Array MapEntry} {es : List (Int × Int)}
theorem BornOk.push (h : BornOk l clock) {e : MapEntry} (he : e.born = clock) : BornOk (l.push e) (clock + 1) := by
 refine ⟨fun y hy => ?_, ?_⟩
 ·rw [Array.toList_push] at hy
  rcases List.mem_append.1 hy with hy | hy
  ·have := h.1 y hy; omega
  ·obtain rfl := List.mem_singleton.1 hy; omega
 ·rw [Array.toList_push, List.map_append, List.nodup_append]
  refine ⟨h.2, by simp, fun a ha b hb => ?_⟩
  obtain ⟨y, hy, rfl⟩ := List.mem_map.1 ha
  have := h.1 y hy
  simp only [List.map_cons, List.map_nil, List.mem_singleton] at hb
  omega
theorem BornOk.of_born {l l' : Array MapEntry} (h : BornOk l clock) (e : l'.toList.map (·.born) = l.toList.map (·.born)) : BornOk l' clock := by
 refine ⟨fun y hy => ?_, by rw [e]; exact h.2⟩
 have hy : y.born ∈ l.toList.map (·.born) := by rw [← e]; exact List.mem_map_of_mem hy
 obtain ⟨z, hz, e1⟩ := List.mem_map.1 hy
 rw [← e1]; exact h.1 z hz
theorem BornOk.erase (h : BornOk l clock) (j : Nat) : BornOk (l.eraseIdxIfInBounds j) clock := by
 have e : (l.eraseIdxIfInBounds j).toList = l.toList.eraseIdx j := by simp
 refine ⟨fun y hy => ?_, ?_⟩
 ·rw [e] at hy; exact h.1 y (List.mem_of_mem_eraseIdx hy)
 ·rw [e, ← map_erase]
  exact h.2.sublist (List.eraseIdx_sublist ..)
theorem up_I (hm : P.underlying t = some (.map kt et)) (hd : P.underlying kt = some (.int κ)) (hb : w.heap[r]? = some (.map l clock)) (hl : KV l.toList = es.map (encE kk vk)) (hbo : BornOk l clock) :
  ∃ l' c', (Instr.mapUpdate t (.map (some r)) (.int kk k) (vk.mk x)).run P w = .ok () (w.putObj r (.map l' c')) ∧ KV l'.toList = (insI k x es).map (encE kk vk) ∧ BornOk l' c' := by
 have hset : ∀ o, (setObj r o).run P w = .ok () (w.putObj r o) := fun o => setObj_at o hb
 have hc := fun e => keyT (P := P) (w := w) 9999 kt hd e (.int kk k)
 have hf := find_I (κ := κ) (kk := kk) (vk := vk) (k := k) (i := 0) hl
 cases hp : posI k es 0 with
 | none =>
  rw [hp] at hf
  refine ⟨l.push { key := .int kk k, val := vk.mk x, born := clock }, clock + 1, ?_, ?_, hbo.push rfl⟩
  ·simp [Instr.mapUpdate, run_underlying hm, getObj_map hb, hc, findKey_now hd hf, hset]
  ·rw [insI_none hp]
   simp only [KV, Array.toList_push, List.map_append, List.map_cons, List.map_nil] at hl ⊢
   rw [hl]; rfl
 | some p =>
  obtain ⟨j, u⟩ := p
  rw [hp] at hf
  obtain ⟨_, hj⟩ := posI_ge hp
  rw [Nat.sub_zero] at hj
  have hj2 : (KV l.toList)[j]? = some (encE kk vk (k, u)) := by rw [hl, List.getElem?_map, hj]; rfl
  obtain ⟨e, he, hek⟩ : ∃ e, l[j]? = some e ∧ e.key = .int kk k := by
   simp only [KV, List.getElem?_map, Option.map_eq_some_iff] at hj2
   obtain ⟨e, h1, h2⟩ := hj2
   rw [Array.getElem?_toList] at h1
   exact ⟨e, h1, (Prod.mk.inj h2).1⟩
  have hsb : Instr.sameBits 10000 (.int kk k) (.int kk k) = true := by simp [Instr.sameBits]
  have hlt : j < l.size := (Array.getElem?_eq_some_iff.1 he).1
  refine ⟨l.modify j fun e => { e with key := .int kk k, val := vk.mk x }, clock, ?_, ?_, hbo.of_born ?_⟩
  ·have hsb : ∀ n, Instr.sameBits n (.int kk k) (.int kk k) = true := fun n => by cases n <;> simp [Instr.sameBits]
   simp [Instr.mapUpdate, run_underlying hm, getObj_map hb, hc, findKey_now hd hf, hset, he, Instr.keyThatStays, hek, hsb]
  ·rw [insI_some hp, Nat.sub_zero]
   apply List.ext_getElem?
   intro i
   simp only [KV, List.getElem?_map, Array.getElem?_toList, Array.getElem?_modify, List.getElem?_set]
   have hi : (l[i]?.map fun e => (e.key, e.val)) = (es[i]?).map (encE kk vk) := by
    rw [← List.getElem?_map, ← hl]
    simp [KV]
   by_cases hij : j = i
   ·subst hij
    have hes : j < es.length := (List.getElem?_eq_some_iff.1 hj).1
    rw [if_pos rfl, if_pos rfl, if_pos hes, he]
    rfl
   ·rw [if_neg hij, if_neg hij]
    exact hi
  ·apply List.ext_getElem?
   intro i
   simp only [List.getElem?_map, Array.getElem?_toList, Array.getElem?_modify]
   by_cases hij : j = i
   ·rw [if_pos hij]
    cases l[i]? <;> rfl
   ·rw [if_neg hij]
theorem look_I (hm : P.underlying t = some (.map kt et)) (hd : P.underlying kt = some (.int κ)) (hb : w.heap[r]? = some (.map l clock)) (hl : KV l.toList = es.map (encE kk vk)) (hz : (zeroValue et).run P w = .ok (vk.mk 0) w) (ok : Bool) :
  (Instr.lookup t (.map (some r)) (.int kk k) ok).run P w = .ok (if ok then .tuple #[vk.mk (getI k es), .bool (hasI k es)] else vk.mk (getI k es)) w := by
 have hc := fun e => keyT (P := P) (w := w) 9999 kt hd e (.int kk k)
 have hf := find_I (κ := κ) (kk := kk) (vk := vk) (k := k) (i := 0) hl
 have hk := posI_look (k := k) (es := es) (i := 0)
 unfold getI hasI
 rw [← hk]
 cases hp : posI k es 0 with
 | none =>
  rw [hp] at hf
  cases ok <;> simp [Instr.lookup, run_underlying hm, getObj_map hb, hc, findKey_now hd hf, hz]
 | some p =>
  obtain ⟨j, u⟩ := p
  rw [hp] at hf
  cases ok <;> simp [Instr.lookup, run_underlying hm, getObj_map hb, hc, findKey_now hd hf]
theorem del_I {ts : Array TypeId} {ty : TypeId} (ht : ts[0]? = some t) (hm : P.underlying t = some (.map kt et)) (hd : P.underlying kt = some (.int κ)) (hb : w.heap[r]? = some (.map l clock)) (hl : KV l.toList = es.map (encE kk vk)) (hbo : BornOk l clock) :
  ∃ l', (Builtin.delete_ ts ty #[.map (some r), .int kk k]).run P w = .ok (.tuple #[]) (w.putObj r (.map l' clock)) ∧ KV l'.toList = (delI k es).map (encE kk vk) ∧ BornOk l' clock := by
 have hset : ∀ o, (setObj r o).run P w = .ok () (w.putObj r o) := fun o => setObj_at o hb
 have hc := fun e => keyT (P := P) (w := w) 9999 kt hd e (.int kk k)
 have hf := find_I (κ := κ) (kk := kk) (vk := vk) (k := k) (i := 0) hl
 cases hp : posI k es 0 with
 | none =>
  rw [hp] at hf
  refine ⟨l, ?_, by rw [delI_none hp]; exact hl, hbo⟩
  simp [Builtin.delete_, ht, run_underlying hm, getObj_map hb, hc, findKey_now hd hf, hset]
 | some p =>
  obtain ⟨j, u⟩ := p
  rw [hp] at hf
  refine ⟨l.eraseIdxIfInBounds j, ?_, ?_, hbo.erase j⟩
  ·simp [Builtin.delete_, ht, run_underlying hm, getObj_map hb, hc, findKey_now hd hf, hset]
  ·rw [delI_some hp, Nat.sub_zero]
   have : (l.eraseIdxIfInBounds j).toList = l.toList.eraseIdx j := by simp
   rw [this, KV_erase, hl, map_erase]
end
theorem VK.of_ok {R : Ren} {vk : VK} {v : S1} {n : Int} {u : Value} (h : vk.of v = some n) (hv : v.ok R u) : u = vk.mk n := by
 unfold VK.of at h
 split at h
 ·split at h
  ·rename_i e
   cases h
   subst e
   exact hv
  ·cases h
 ·rename_i b
  cases h
  have hv : u = .bool b.den := hv
  rw [hv]
  cases b.den <;> rfl
 ·cases h
theorem VK.sc_ok {R : Ren} (vk : VK) (n : Int) : (vk.sc n).ok R (vk.mk n) := by cases vk <;> rfl
theorem VK.isZ_ok {P : Program} {w : World} {vk : VK} {t : TypeId} (h : vk.isZ P t = true) : (zeroValue t).run P w = .ok (vk.mk 0) w := by
 unfold VK.isZ at h
 split at h
 ·rename_i k k' n hz
  simp only [Bool.and_eq_true, decide_eq_true_eq] at h
  obtain ⟨rfl, rfl⟩ := h
  obtain ⟨zv, k1, k2⟩ := zeroV_ok (w := w) (R := fun _ => none) hz
  have k2 : zv = .int k 0 := k2
  rw [k1, k2]
  rfl
 ·rename_i hz
  obtain ⟨zv, k1, k2⟩ := zeroV_ok (w := w) (R := fun _ => none) hz
  have k2 : zv = .bool false := k2
  rw [k1, k2]
  rfl
 ·cases h
section
variable {P : Program} {n0 : Nat} {F : Nat → Prop} {w0 w : World} {R : Ren} {m : SMem}
theorem getX_I (hR : Rel n0 F w0 R m w) {id : Nat} {wr : Bool} {kk : IntKind} {vk : VK} {es : List (Int × Int)} (h : getX m.xs id = some (.mapI wr kk vk es)) {g : Loc} (hg : R id = some g) : ∃ l clock, w.heap[g.b]? = some (.map l clock) ∧ KV l.toList = es.map (encE kk vk) := by
 obtain ⟨g', ob, k1, k2, ⟨l, c, rfl, hl, _⟩, _⟩ := hR.xo id _ h
 rw [hg] at k1
 cases k1
 exact ⟨l, c, k2, hl⟩
theorem arg2 {R : Ren} {T : Tm} {a : Act} (hT : TmOk R T a) {args : Array Operand} {x y : SV} (h : evs T args.toList = some [x, y]) : ∃ u v, args.map a.eval = #[u, v] ∧ x.ok R u ∧ y.ok R v := by
 have hv := evs_ok hT h
 match hl : args.toList.map a.eval, hv with
 | [u, v], hu =>
  refine ⟨u, v, ?_, hu.1, hu.2.1⟩
  apply Array.ext'
  simpa using hl
 | [], hu => exact hu.elim
 | [_], hu => exact hu.2.elim
 | _ :: _ :: _ :: _, hu => exact hu.2.2.elim
theorem xop4_ok {T : Tm} {a : Act} {o : Oper} {q : List Prop} {s : SV} {m' : SMem} (h : xop4 P T m o.op = .ok q s m') (hT : TmOk R T a) (hR : Rel n0 F w0 R m w) :
  Does n0 F w0 w m R m' s fun w' v => Ends P a o w w' v := by
 have pure1 : ∀ {s' : SV} {q' : List Prop} {v : Value}, XR.ok q' s' m = .ok q s m' → s'.ok R v → (execOp a.eval o).run P w = .ok (.value v) w → Does n0 F w0 w m R m' s fun w' v => Ends P a o w w' v := by
  intro s' q' v e hs hrun
  cases e
  exact ⟨R, w, v, ExtN.refl _ _ R, hR, hs, .inl hrun⟩
 have upd : ∀ {t : TypeId} {x k v : Operand}, xop4_up P T m t x k v = .ok q s m' → (∀ (r : Nat) (c : Nat) (l : Array MapEntry), (Instr.mapUpdate t (a.eval x) (a.eval k) (a.eval v)).run P w = .ok () (w.putObj r (.map l c)) → (execOp a.eval o).run P w = .ok .skip (w.putObj r (.map l c))) →
   Does n0 F w0 w m R m' s fun w' v => Ends P a o w w' v := by
  intro t x k v h hrun
  unfold xop4_up at h
  split at h
  ·rename_i kt et id kk' n val hu hx hk hv
   split at h
   ·rename_i kk vk es hky hes
    split at h
    ·rename_i xv hkk hxv
     cases h
     have hkk := of_decide_eq_true hkk
     subst hkk
     obtain ⟨κ, hd⟩ := isIntT_ok hky
     obtain ⟨g, hg, ex⟩ := ev_ok hT hx
     have ek : a.eval k = .int kk n.den := ev_ok hT hk
     have evv : a.eval v = vk.mk xv := VK.of_ok (R := R) hxv (ev_ok hT hv)
     obtain ⟨g', ob, k1, k2, ⟨l, c, rfl, hl, hbo⟩, kset, _⟩ := hR.setX hes rfl
     rw [hg] at k1
     cases k1
     obtain ⟨l', c', r1, r2⟩ := up_I (P := P) (k := n.den) (x := xv) hu hd k2 hl hbo
     rw [← ex, ← ek, ← evv] at r1
     exact ⟨R, _, undef, ExtN.same _ R (by simp), kset (.mapI true kk vk (insI n.den xv es)) _ ⟨l', c', rfl, r2⟩, ⟨#[], rfl, trivial⟩, .inr ⟨hrun _ _ _ r1, rfl⟩⟩
    ·cases h
   ·cases h
  ·cases h
 generalize ho : o.op = op at h
 unfold xop4 at h
 split at h
 ·exact upd h fun r c l hk => by simp [execOp, ho, hk]
 ·exact upd h fun r c l hk => by simp [execOp, ho, hk]
 ·rename_i t x k ok
  unfold xop4_look at h
  split at h
  ·rename_i kt et id kk' n hu hx hk
   split at h
   ·rename_i w1 kk vk es hky hes
    obtain ⟨κ, hd⟩ := isIntT_ok hky
    obtain ⟨g, hg, ex⟩ := ev_ok hT hx
    have ek : a.eval k = .int kk' n.den := ev_ok hT hk
    obtain ⟨l, c, k2, hl⟩ := getX_I hR hes hg
    split at h
    ·rename_i hc
     simp only [Bool.and_eq_true, decide_eq_true_eq] at hc
     obtain ⟨rfl, hz⟩ := hc
     have r1 := look_I (P := P) (k := n.den) hu hd k2 hl (VK.isZ_ok hz) true
     rw [← ex, ← ek] at r1
     refine pure1 (v := .tuple #[vk.mk (getI n.den es), .bool (hasI n.den es)]) h ⟨_, rfl, VK.sc_ok _ _, rfl, trivial⟩ ?_
     simp [execOp, ho, r1]
    ·rename_i hc
     simp only [Bool.and_eq_true, decide_eq_true_eq] at hc
     obtain ⟨rfl, hz⟩ := hc
     have r1 := look_I (P := P) (k := n.den) hu hd k2 hl (VK.isZ_ok hz) false
     rw [← ex, ← ek] at r1
     refine pure1 (v := vk.mk (getI n.den es)) h (VK.sc_ok _ _) ?_
     simp [execOp, ho, r1]
    ·cases h
   ·cases h
  ·cases h
 ·rename_i args ts
  unfold xop4_del at h
  split at h
  ·rename_i t id kk' n ht hx
   split at h
   ·rename_i kt et hu
    split at h
    ·rename_i kk vk es hky hes
     split at h
     ·rename_i hkk
      have hkk := of_decide_eq_true hkk
      subst hkk
      cases h
      obtain ⟨κ, hd⟩ := isIntT_ok hky
      obtain ⟨u, v, e, ⟨g, hg, rfl⟩, hv⟩ := arg2 hT hx
      have hv : v = .int kk n.den := hv
      subst hv
      rw [nth_eq, Array.getElem?_toList] at ht
      obtain ⟨g', ob, k1, k2, ⟨l, c, rfl, hl, hbo⟩, kset, _⟩ := hR.setX hes rfl
      rw [hg] at k1
      cases k1
      obtain ⟨l', r1, r2⟩ := del_I (P := P) (k := n.den) (ty := o.type) ht hu hd k2 hl hbo
      refine ⟨R, _, .tuple #[], ExtN.same _ R (by simp), kset (.mapI true kk vk (delI n.den es)) _ ⟨l', c, rfl, r2⟩, ⟨#[], rfl, trivial⟩, .inl ?_⟩
      simp [execOp, ho, resolve, invoke, builtin, e, r1]
     ·cases h
    ·cases h
   ·cases h
  ·cases h
 ·rename_i args ts
  unfold xop4_len at h
  split at h
  ·rename_i t id ht hx
   split at h
   ·rename_i kt et wr kk vk es hu hes
    obtain ⟨u, e, g, hg, rfl⟩ := arg1 hT hx
    rw [nth_eq, Array.getElem?_toList] at ht
    obtain ⟨l, c, k2, hl⟩ := getX_I hR hes hg
    have hlen : l.size = es.length := by
     have := congrArg List.length hl
     simpa [KV] using this
    refine pure1 (v := .int .i64 (l.size : Nat)) h ?_ ?_
    ·show _ = _
     rw [hlen]
    ·simp [execOp, ho, resolve, invoke, builtin, e, Builtin.len_, ht, run_underlying hu, Builtin.lenOf, getObj_map k2, goInt]
   ·cases h
  ·cases h
 ·cases h
end
end Go.Proofs.YtdopckcockgefaaDoor
