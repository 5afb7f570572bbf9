/- The operations besides: structs that are compared, interfaces, maps, clear. No condition. -/
import Derived.Test.YtdopckcockgefaaDoorK7b
import Derived.Laws.StructEq
import Derived.WideMake
import Derived.ChangeKeysEq
set_option linter.unusedVariables false
set_option linter.unusedSimpArgs false
namespace Go.Proofs.YtdopckcockgefaaDoor
theorem and_den (a b : SB) : (a.and b).den = (a.den && b.den) := by
 cases a with
 | l a => cases a <;> cases b <;> simp [SB.and, SB.den]
 | o a => cases b with
  | l b => cases b <;> simp [SB.and, SB.den]
  | o b => simp [SB.and, SB.den]
theorem ibeq_den (a b : SI) : (a.beq b).den = (a.den == b.den) := by cases a <;> cases b <;> rfl
section
variable {P : Program} {w : World} {R : Ren}
theorem eqF_ok {p : TypeId → S1 → S1 → Option SB} {d : Nat} (hp : ∀ t x y s u v, p t x y = some s → x.ok R u → y.ok R v → (Op.equalIn d t u v).run P w = .ok s.den w) {a b : SA} {xs ys : Array Value}
  (ha : a.ok R xs) (hb : b.ok R ys) : ∀ {l : List Field} {s : SB}, eqF P p a b l = some s → (Op.eqFields d xs ys l).run P w = .ok s.den w
 | [], s, h => by simp only [eqF, Option.some.injEq] at h; subst h; rfl
 | f :: l, s, h => by
  simp only [eqF] at h
  split at h
  ·rename_i e
   simp only [Op.eqFields, Sem.run_ite]
   rw [if_neg (by simpa using e)]
   exact eqF_ok hp ha hb h
  ·rename_i e
   split at h
   ·rename_i u v hu hv
    split at h
    ·rename_i x y hx hy
     cases h
     obtain ⟨cu, k1, k2⟩ := partS_ok hu (fun _ h => by cases h) (SA.okM_of ha)
     obtain ⟨cv, k3, k4⟩ := partS_ok hv (fun _ h => by cases h) (SA.okM_of hb)
     have e1 := run_part (w := w) k1
     have e2 := run_part (w := w) k3
     simp only [SN.den] at e1 e2
     have e3 := hp _ _ _ _ _ _ hx k2 k4
     have ih := eqF_ok hp ha hb hy
     simp only [Op.eqFields, Sem.run_ite, Sem.run_bind]
     rw [if_pos (by simpa using e), e1]
     simp only [Result.andThen_ok]
     rw [e2]
     simp only [Result.andThen_ok]
     rw [e3]
     simp only [Result.andThen_ok, and_den]
     cases hxd : x.den
     ·simp
     ·simpa using ih
    ·cases h
   ·cases h
theorem eqA_ok {p : TypeId → S1 → S1 → Option SB} {d : Nat} (hp : ∀ t x y s u v, p t x y = some s → x.ok R u → y.ok R v → (Op.equalIn d t u v).run P w = .ok s.den w) {e : TypeId} {c : Nat} {a b : SA} {xs ys : Array Value}
  (ha : a.ok R xs) (hb : b.ok R ys) : ∀ {l : List Nat} {s : SB}, eqA P p e c a b l = some s → (Op.eqItems d e c xs ys l).run P w = .ok s.den w
 | [], s, h => by simp only [eqA, Option.some.injEq] at h; subst h; rfl
 | i :: l, s, h => by
  simp only [eqA] at h
  split at h
  ·rename_i u v hu hv
   split at h
   ·rename_i x y hx hy
    cases h
    obtain ⟨cu, k1, k2⟩ := partS_ok hu (fun _ h => by cases h) (SA.okM_of ha)
    obtain ⟨cv, k3, k4⟩ := partS_ok hv (fun _ h => by cases h) (SA.okM_of hb)
    have e1 := run_part (w := w) k1
    have e2 := run_part (w := w) k3
    simp only [SN.den] at e1 e2
    have e3 := hp _ _ _ _ _ _ hx k2 k4
    have ih := eqA_ok hp ha hb hy
    simp only [Op.eqItems, Sem.run_bind]
    rw [e1]
    simp only [Result.andThen_ok]
    rw [e2]
    simp only [Result.andThen_ok]
    rw [e3]
    simp only [Result.andThen_ok, and_den]
    cases hxd : x.den
    ·simp
    ·simpa using ih
   ·cases h
  ·cases h
theorem eqV_ok : ∀ (n : Nat) {t : TypeId} {x y : S1} {s : SB} {u v : Value}, eqV P n t x y = some s → x.ok R u → y.ok R v → ∀ d, n ≤ d → (Op.equalIn d t u v).run P w = .ok s.den w
 | 0, _, _, _, _, _, _, h, _, _, _, _ => by cases h
 | n + 1, t, x, y, s, u, v, h, hx, hy, d, hd => by
  obtain ⟨d, rfl⟩ : ∃ d', d = d' + 1 := ⟨d - 1, by omega⟩
  simp only [eqV] at h
  split at h
  ·rename_i fs a b hu
   split at h
   ·cases h
   ·rename_i hst
    obtain ⟨xs, rfl, ha⟩ := hx
    obtain ⟨ys, rfl, hb⟩ := hy
    have hf : P.fieldsOf t = fs := by unfold Program.fieldsOf; rw [hu]
    rw [run_equalIn_struct w d t xs ys (by rw [hf]; exact hu) (by simpa using hst), hf]
    exact eqF_ok (fun t x y s u v h1 h2 h3 => eqV_ok n h1 h2 h3 d (by omega)) ha hb h
  ·rename_i k' e a b hu
   split at h
   ·rename_i i hi
    obtain ⟨xs, rfl, ha⟩ := hx
    obtain ⟨ys, rfl, hb⟩ := hy
    have hc : P.cellsOf e = i.size := by unfold Program.cellsOf; rw [hi]; rfl
    rw [run_equalIn_array w d xs ys hu hi, hc]
    exact eqA_ok (fun t x y s u v h1 h2 h3 => eqV_ok n h1 h2 h3 d (by omega)) ha hb h
   ·cases h
  ·rename_i k' hu
   split at h
   ·rename_i e
    subst e
    cases h
    obtain rfl : u = _ := hx
    obtain rfl : v = _ := hy
    rw [run_equalIn_int w d t _ _ _ _ hu, ibeq_den]
   ·cases h
  ·rename_i hu
   cases h
   obtain rfl : u = _ := hx
   obtain rfl : v = _ := hy
   rw [run_equalIn_bool w d t _ _ hu, beq_den]
  ·cases h
theorem sfs_ok : ∀ {l : List SC} {ys : List SF} {vs : List Value}, sfs l = some ys → All2 (SC.ok R) l vs → All2 (SF.ok R) ys vs
 | [], ys, [], h, _ => by simp only [sfs, Option.some.injEq] at h; subst h; trivial
 | [], _, _ :: _, _, h => h.elim
 | _ :: _, _, [], _, h => h.elim
 | .f x :: l, ys, v :: vs, h, hv => by
  simp only [sfs, Option.map_eq_some_iff] at h
  obtain ⟨z, hz, rfl⟩ := h
  exact ⟨hv.1, sfs_ok hz hv.2⟩
 | .fn _ _ _ :: _, _, _, h, _ => by cases h
 | .yl _ :: _, _, _, h, _ => by cases h
 | .ifc _ _ _ :: _, _, _, h, _ => by cases h
theorem isIface_f {t : TypeId} (h : isIface P t = false) : ∃ d, P.underlying t = some d ∧ ∀ ms, d ≠ .interface ms := by
 unfold isIface at h
 split at h
 ·cases h
 ·rename_i d hd hu
  exact ⟨d, hu, fun ms e => hd ms e⟩
 ·cases h
theorem isIface_t {t : TypeId} (h : isIface P t = true) {d : TypeDesc} (hu : P.underlying t = some d) : ∃ ms, d = .interface ms := by
 unfold isIface at h
 rw [hu] at h
 cases d <;> first | exact ⟨_, rfl⟩ | cases h
theorem zeroV_ok {t : TypeId} {x : S1} (h : zeroV P t = some x) : ∃ z, (zeroValue t).run P w = .ok z w ∧ x.ok R z := by
 unfold zeroV at h
 split at h
 ·rename_i i hi
  split at h
  ·rename_i z hz
   split at h
   ·rename_i y hy
    cases h
    exact ⟨z, by simp [zeroValue, typeInfo, hi, hz], SV.ofVal_ok R hy⟩
   ·cases h
  ·cases h
 ·cases h
def KeyOk (kd : TypeDesc) (x : SF) : Prop := (∃ κ κ' a, kd = .int κ ∧ x = .int κ' (.l a)) ∨ ∃ a, kd = .bool ∧ x = .bool (.l a)
theorem keyOk_ok {t : TypeId} {x : SF} (ht : keyOk P t x = true) : ∃ d, P.underlying t = some d ∧ KeyOk d x := by
 unfold keyOk at ht
 split at ht
 ·rename_i e; exact ⟨_, e, .inl ⟨_, _, _, rfl, rfl⟩⟩
 ·rename_i e; exact ⟨_, e, .inr ⟨_, rfl, rfl⟩⟩
 ·cases ht
theorem run_checkKey' {t : TypeId} {d : TypeDesc} {k : Value} {x : SF} (hu : P.underlying t = some d) (hd : KeyOk d x) (e : Bool) (n : Nat) : (Instr.checkKey e (n + 1) t k).run P w = .ok () w := by
 unfold Instr.checkKey
 rcases hd with ⟨κ, _, _, rfl, _⟩ | ⟨_, rfl, _⟩ <;> simp [run_underlying hu]
def Found (R : Ren) (o : Option (Option (Nat × Value))) : Option S1 → Prop
 | none => o = some none
 | some v => ∃ j u, o = some (some (j, u)) ∧ v.ok R u
theorem same_now {kd : TypeDesc} {x y : SF} {k k' : Value} {c : Bool} (hk : KeyOk kd x) (hx : x.ok R k) (hy : y.ok R k')
  (h : (∃ κ a b, x = .int κ (.l a) ∧ y = .int κ (.l b) ∧ c = decide (a = b)) ∨ ∃ a b, x = .bool (.l a) ∧ y = .bool (.l b) ∧ c = decide (a = b)) : Instr.sameNow kd k k' = some c := by
 rcases h with ⟨κ, a, b, rfl, rfl, rfl⟩ | ⟨a, b, rfl, rfl, rfl⟩
 ·obtain rfl : k = .int κ a := hx
  obtain rfl : k' = .int κ b := hy
  rcases hk with ⟨_, _, _, rfl, _⟩ | ⟨_, _, e⟩
  ·simp only [Instr.sameNow, if_true]
   by_cases hab : a = b <;> simp [hab]
  ·cases e
 ·obtain rfl : k = .bool a := hx
  obtain rfl : k' = .bool b := hy
  rcases hk with ⟨_, _, _, _, e⟩ | ⟨_, rfl, _⟩
  ·cases e
  ·simp only [Instr.sameNow]
   by_cases hab : a = b <;> simp [hab]
theorem findS_ok {kd : TypeDesc} {x : SF} {k : Value} (hk : KeyOk kd x) (hx : x.ok R k) : ∀ {es : List (SF × S1 × Nat)} {l : List MapEntry} {r : Option S1} (i : Nat), findS x es = some r → All2 (EntryOk R) es l →
  Found R (Instr.findNow kd k l i) r
 | [], [], r, i, h, _ => by simp only [findS, Option.some.injEq] at h; subst h; rfl
 | [], _ :: _, _, _, _, h => h.elim
 | _ :: _, [], _, _, _, h => h.elim
 |(y, v, n) :: es, e :: l, r, i, h, hl => by
  obtain ⟨⟨h1, h2, h3⟩, h4⟩ := hl
  have go : ∀ b : Bool, Instr.sameNow kd k e.key = some b → (if b = true then some (some v) else findS x es) = some r → Found R (Instr.findNow kd k (e :: l) i) r := by
   intro b hb hr
   cases b with
   | true =>
    rw [if_pos rfl] at hr
    cases hr
    exact ⟨i, e.val, by simp [Instr.findNow, hb], h2⟩
   | false =>
    rw [if_neg (by simp)] at hr
    have ih := findS_ok hk hx (i + 1) hr h4
    cases r with
    | none =>
     have ih : Instr.findNow kd k l (i + 1) = some none := ih
     show Instr.findNow kd k (e :: l) i = some none
     simpa [Instr.findNow, hb] using ih
    | some v' =>
     obtain ⟨j, u, k1, k2⟩ := ih
     exact ⟨j, u, by simpa [Instr.findNow, hb] using k1, k2⟩
  simp only [findS] at h
  split at h
  ·rename_i κ a κ' b
   split at h
   ·rename_i ek
    subst ek
    refine go (decide (a = b)) (same_now hk hx h1 (.inl ⟨_, _, _, rfl, rfl, rfl⟩)) ?_
    by_cases hab : a = b
    ·rw [if_pos hab] at h; simpa [hab] using h
    ·rw [if_neg hab] at h; simpa [hab] using h
   ·cases h
  ·rename_i a b
   refine go (decide (a = b)) (same_now hk hx h1 (.inr ⟨_, _, rfl, rfl, rfl⟩)) ?_
   by_cases hab : a = b
   ·rw [if_pos hab] at h; simpa [hab] using h
   ·rw [if_neg hab] at h; simpa [hab] using h
  ·cases h
def Put (R : Ren) (kd : TypeDesc) (k v : Value) (clock : Nat) (l : List MapEntry) (i : Nat) (es : List (SF × S1 × Nat)) : Bool → Prop
 | true => Instr.findNow kd k l i = some none ∧ All2 (EntryOk R) es (l ++ [{ key := k, val := v, born := clock }])
 | false => ∃ j u e, Instr.findNow kd k l i = some (some (i + j, u)) ∧ l[j]? = some e ∧ e.key = k ∧ All2 (EntryOk R) es (l.set j { e with val := v })
theorem insS_ok {kd : TypeDesc} {x : SF} {y : S1} {k v : Value} {clock : Nat} (hk : KeyOk kd x) (hx : x.ok R k) (hy : y.ok R v) : ∀ {es : List (SF × S1 × Nat)} {l : List MapEntry} {r : List (SF × S1 × Nat) × Bool} (i : Nat), insS x y clock es = some r → All2 (EntryOk R) es l →
  Put R kd k v clock l i r.1 r.2
 | [], [], r, i, h, _ => by
  simp only [insS, Option.some.injEq] at h
  subst h
  exact ⟨rfl, ⟨hx, hy, rfl⟩, trivial⟩
 | [], _ :: _, _, _, _, h => h.elim
 | _ :: _, [], _, _, _, h => h.elim
 |(z, u, n) :: es, e :: l, r, i, h, hl => by
  obtain ⟨⟨h1, h2, h3⟩, h4⟩ := hl
  have go : ∀ b : Bool, Instr.sameNow kd k e.key = some b → (b = true → e.key = k) → (if b = true then some ((z, y, n) :: es, false) else (insS x y clock es).map fun r => ((z, u, n) :: r.1, r.2)) = some r → Put R kd k v clock (e :: l) i r.1 r.2 := by
   intro b hb hkey hr
   cases b with
   | true =>
    rw [if_pos rfl] at hr
    cases hr
    exact ⟨0, e.val, e, by simp [Instr.findNow, hb], rfl, hkey rfl, ⟨h1, hy, h3⟩, h4⟩
   | false =>
    rw [if_neg (by simp), Option.map_eq_some_iff] at hr
    obtain ⟨⟨es', c⟩, hr, rfl⟩ := hr
    have ih := insS_ok hk hx hy (i + 1) hr h4
    cases c with
    | true =>
     obtain ⟨k1, k2⟩ := ih
     exact ⟨by simpa [Instr.findNow, hb] using k1, ⟨h1, h2, h3⟩, k2⟩
    | false =>
     obtain ⟨j, u', e', k1, k2, k3, k4⟩ := ih
     refine ⟨j + 1, u', e', ?_, by simpa using k2, k3, ⟨h1, h2, h3⟩, k4⟩
     have : i + (j + 1) = i + 1 + j := by omega
     rw [this]
     simpa [Instr.findNow, hb] using k1
  simp only [insS] at h
  split at h
  ·rename_i κ a κ' b
   split at h
   ·rename_i ek
    subst ek
    refine go (decide (a = b)) (same_now hk hx h1 (.inl ⟨_, _, _, rfl, rfl, rfl⟩)) ?_ ?_
    ·intro hab
     have hab : a = b := by simpa using hab
     have e1 : k = .int κ a := hx
     have e2 : e.key = .int κ b := h1
     rw [e1, e2, hab]
    ·by_cases hab : a = b
     ·rw [if_pos hab] at h; simpa [hab] using h
     ·rw [if_neg hab] at h; simpa [hab] using h
   ·cases h
  ·rename_i a b
   refine go (decide (a = b)) (same_now hk hx h1 (.inr ⟨_, _, rfl, rfl, rfl⟩)) ?_ ?_
   ·intro hab
    have hab : a = b := by simpa using hab
    have e1 : k = .bool a := hx
    have e2 : e.key = .bool b := h1
    rw [e1, e2, hab]
   ·by_cases hab : a = b
    ·rw [if_pos hab] at h; simpa [hab] using h
    ·rw [if_neg hab] at h; simpa [hab] using h
  ·cases h
theorem sameBits_key {kd : TypeDesc} {x : SF} {k : Value} (hk : KeyOk kd x) (hx : x.ok R k) (n : Nat) : Instr.sameBits n k k = true := by
 rcases hk with ⟨_, κ, a, _, rfl⟩ | ⟨a, _, rfl⟩
 ·obtain rfl : k = .int κ a := hx
  cases n <;> simp [Instr.sameBits]
 ·obtain rfl : k = .bool a := hx
  cases n <;> simp [Instr.sameBits]
theorem getObj_map {r : Nat} {l : Array MapEntry} {clock : Nat} (hb : w.heap[r]? = some (.map l clock)) : (getObj r).run P w = .ok (.map l clock) w := by
 simp [getObj, Sem.run, hb]
theorem setObj_at {r : Nat} {l : Array MapEntry} {clock : Nat} (o : Obj) (hb : w.heap[r]? = some (.map l clock)) : (setObj r o).run P w = .ok () (w.putObj r o) := by
 simp [setObj, Sem.run, hb, World.putObj]
theorem findKey_now {kt : TypeId} {d : TypeDesc} {k : Value} {l : List MapEntry} {a : Option (Nat × Value)} (hd : P.underlying kt = some d) (h : Instr.findNow d k l 0 = some a) : (Instr.findKey kt k l).run P w = .ok a w := by
 simp [Instr.findKey, run_underlying hd, h]
theorem run_mapUpdate' {t kt et : TypeId} {kd : TypeDesc} {x : SF} {k v : Value} {r clock : Nat} {l : Array MapEntry} {es : List (SF × S1 × Nat)} {new : Bool} (hm : P.underlying t = some (.map kt et)) (hd : P.underlying kt = some kd) (hk : KeyOk kd x) (hx : x.ok R k)
  (hb : w.heap[r]? = some (.map l clock)) (hp : Put R kd k v clock l.toList 0 es new) :
  ∃ l', (Instr.mapUpdate t (.map (some r)) k v).run P w = .ok () (w.putObj r (.map l' (if new then clock + 1 else clock))) ∧ All2 (EntryOk R) es l'.toList := by
 have hset : ∀ o, (setObj r o).run P w = .ok () (w.putObj r o) := fun o => setObj_at o hb
 have hc := fun e => run_checkKey' (P := P) (w := w) (k := k) hd hk e 9999
 cases new with
 | true =>
  obtain ⟨h1, h2⟩ := hp
  refine ⟨l.push { key := k, val := v, born := clock }, ?_, by simpa using h2⟩
  simp [Instr.mapUpdate, run_underlying hm, getObj_map hb, hc, findKey_now hd h1, hset]
 | false =>
  obtain ⟨j, u, e, h1, h2, h3, h4⟩ := hp
  rw [Nat.zero_add] at h1
  have hj : l[j]? = some e := by simpa using h2
  have hlt : j < l.size := (Array.getElem?_eq_some_iff.1 hj).1
  refine ⟨l.modify j fun e => { e with key := k, val := v }, ?_, ?_⟩
  ·simp [Instr.mapUpdate, run_underlying hm, getObj_map hb, hc, findKey_now hd h1, hset, hj, Instr.keyThatStays, h3, sameBits_key hk hx]
  ·have e1 : (l.modify j fun e => { e with key := k, val := v }).toList = l.toList.set j { e with val := v } := by
    apply List.ext_getElem?
    intro i
    rw [Array.getElem?_toList, Array.getElem?_modify, List.getElem?_set]
    by_cases hij : j = i
    ·subst hij
     rw [if_pos rfl, if_pos rfl, hj]
     simp [hlt, h3]
    ·rw [if_neg hij, if_neg hij, Array.getElem?_toList]
   rw [e1]
   exact h4
end
section
variable {P : Program} {n0 : Nat} {F : Nat → Prop} {w0 w : World} {R : Ren} {m : SMem}
theorem es_ok (hR : Rel n0 F w0 R m w) {id : Nat} {es : List (SF × S1 × Nat)} (h : (getX m.xs id).bind XO.es = some es) {g : Loc} (hg : R id = some g) : ∃ l clock, w.heap[g.b]? = some (.map l clock) ∧ All2 (EntryOk R) es l.toList := by
 obtain ⟨x, hx, he⟩ := Option.bind_eq_some_iff.1 h
 obtain ⟨g', ob, k1, k2, k3, _⟩ := hR.xo id x hx
 rw [hg] at k1
 cases k1
 cases x with
 | map es' c => cases he; obtain ⟨l, rfl, hl⟩ := k3; exact ⟨l, c, k2, hl⟩
 | mapR es' c => cases he; obtain ⟨l, rfl, hl⟩ := k3; exact ⟨l, c, k2, hl⟩
 | _ => cases he
theorem run_buildSlice0 {t e : TypeId} {sz : Nat} (hu : P.underlying t = some (.slice e)) (hs : (sizeOf e).run P w = .ok sz w) : (Instr.buildSlice t 0 #[]).run P w = .ok (.slice (some ⟨w.heap.size, 0, none⟩) 0 0) (w.alloc (.cells #[] e)) := by
 have e0 : ∀ f : Nat → Value, Array.map f (Array.range 0) = #[] := fun f => by simp [Array.range]
 simp [Instr.buildSlice, run_underlying hu, hs, Instr.fill, newRow, e0]
theorem equal_nil {t : TypeId} {ms : Array (String × TypeId)} (hu : P.underlying t = some (.interface ms)) : (Op.equal t .nilIface .nilIface).run P w = .ok true w := by
 have he : ∀ d, (Op.equalIn (d + 1) t .nilIface .nilIface).run P w = .ok true w := fun d => by simp [Op.equalIn, run_underlying hu]
 exact he 9999
theorem arg1 {R : Ren} {T : Tm} {a : Act} (hT : TmOk R T a) {args : Array Operand} {x : SV} (h : evs T args.toList = some [x]) : ∃ u, args.map a.eval = #[u] ∧ x.ok R u := by
 have hv := evs_ok hT h
 match hl : args.toList.map a.eval, hv with
 | [u], hu =>
  refine ⟨u, ?_, hu.1⟩
  apply Array.ext'
  simpa using hl
 | [], hu => exact hu.elim
 | _ :: _ :: _, hu => exact hu.2.elim
theorem run_clear {t e ty : TypeId} {ts : Array TypeId} {o : Addr} {n c : Nat} {ie : TypeInfo} {zv : Value} {w' : World} (ht : ts[0]? = some t) (hu : P.underlying t = some (.slice e)) (hi : P.info? e = some ie) (hz : ie.zero = some zv)
  (hst : (storeCells o (Builtin.zeroCells zv.cells (n + 1)).toList).run P w = .ok () w') : (Builtin.clear_ ts ty #[.slice (some o) (n + 1) c]).run P w = .ok (.tuple #[]) w' := by
 simp [Builtin.clear_, ht, run_underlying hu, zeroValue, typeInfo, hi, hz, hst]
set_option maxHeartbeats 1000000 in
theorem xop2_ok {T : Tm} {a : Act} {o : Oper} {q : List Prop} {s : SV} {m' : SMem} (h : xop2 P T m o.op = .ok q s m') (hq : ∀ p ∈ q, p) (hT : TmOk R T a) (hR : Rel n0 F w0 R m w) :
  Does n0 F w0 w m R m' s fun w' v => Ends P a o w w' v := by
 have pure1 : ∀ {s' : SV} {q' : List Prop} {v : Value}, XR.ok q' s' m = .ok q s m' → s'.ok R v → (execOp a.eval o).run P w = .ok (.value v) w → Does n0 F w0 w m R m' s fun w' v => Ends P a o w w' v := by
  intro s' q' v e hs hrun
  cases e
  exact ⟨R, w, v, ExtN.refl _ _ R, hR, hs, .inl hrun⟩
 have newM : ∀ {y : SV} {q' : List Prop}, XR.ok q' (.s (.c (.f (.mp m.next)))) (m.newX (.map [] 0)) = .ok q s m' → (execOp a.eval o).run P w = .ok (.value (.map (some w.heap.size))) (w.alloc (.map #[] 0)) →
   Does n0 F w0 w m R m' s fun w' v => Ends P a o w w' v := by
  intro y q' e hrun
  cases e
  obtain ⟨R', k1, k2, k3⟩ := hR.newX (x := .map [] 0) (o := .map #[] 0) ⟨#[], rfl, trivial⟩
  exact ⟨R', _, _, k1, k3, ⟨_, k2, rfl⟩, .inl hrun⟩
 have upd : ∀ {t : TypeId} {x k v : Operand}, (match P.underlying t, ev T x, ev T k, ev T v with
   | some (.map kt _), some (.s (.c (.f (.mp id)))), some (.s (.c (.f key))), some (.s val) => match keyOk P kt key, getX m.xs id with
    | true, some (.map es clock) => match insS key val clock es with
     | some (es', new) => XR.ok [] (.tup []) ⟨m.next, m.bl, putX m.xs id (.map es' (if new then clock + 1 else clock))⟩
     | none => .no
    | _, _ => .no
   | _, _, _, _ => .no) = .ok q s m' → (∀ (r : Nat) (c : Nat) (l : Array MapEntry), (Instr.mapUpdate t (a.eval x) (a.eval k) (a.eval v)).run P w = .ok () (w.putObj r (.map l c)) → (execOp a.eval o).run P w = .ok .skip (w.putObj r (.map l c))) →
   Does n0 F w0 w m R m' s fun w' v => Ends P a o w w' v := by
  intro t x k v h hrun
  split at h
  ·rename_i kt et id key val hu hx hk hv
   split at h
   ·rename_i es clock hky hes
    split at h
    ·rename_i es' new hins
     cases h
     obtain ⟨g, hg, ex⟩ := ev_ok hT hx
     have ek : key.ok R (a.eval k) := ev_ok hT hk
     have evv : val.ok R (a.eval v) := ev_ok hT hv
     obtain ⟨kd, hd, hko⟩ := keyOk_ok hky
     obtain ⟨g', ob, k1, k2, ⟨l, rfl, hl⟩, kset, _⟩ := hR.setX hes rfl
     rw [hg] at k1
     cases k1
     have hput := insS_ok hko ek evv 0 hins hl
     obtain ⟨l', r1, r2⟩ := run_mapUpdate' (P := P) hu hd hko ek k2 hput
     rw [← ex] at r1
     exact ⟨R, _, undef, ExtN.same _ R (by simp), kset (.map es' (if new then clock + 1 else clock)) _ ⟨l', rfl, r2⟩, ⟨#[], rfl, trivial⟩, .inr ⟨hrun _ _ _ r1, rfl⟩⟩
    ·cases h
   ·cases h
  ·cases h
 generalize ho : o.op = op at h
 unfold xop2 at h
 dsimp only [xop2_a0, xop2_a1, xop2_a2, xop2_a3, xop2_a4, xop2_a5, xop2_a6, xop2_a7, xop2_a8, xop2_a9] at h
 split at h
 case h_1 bop t x y yt =>
  split at h
  ·rename_i xa ya hxa hya
   obtain ⟨xs, ex, hxs⟩ := ev_ok hT hxa
   obtain ⟨ys, ey, hys⟩ := ev_ok hT hya
   split at h
   ·rename_i sb hg he
    have h1 := eqV_ok (w := w) 100 he (u := .agg xs) (v := .agg ys) ⟨xs, rfl, hxs⟩ ⟨ys, rfl, hys⟩ 10000 (by omega)
    refine pure1 (v := .bool sb.den) h rfl ?_
    have g1 := run_eqGuard_agg (w := w) .eql t x y xs ys hg
    simp [execOp, ho, ex, ey, g1, run_eql_struct, h1]
   ·rename_i sb hg he
    have h1 := eqV_ok (w := w) 100 he (u := .agg xs) (v := .agg ys) ⟨xs, rfl, hxs⟩ ⟨ys, rfl, hys⟩ 10000 (by omega)
    refine pure1 (v := .bool sb.not.den) h rfl ?_
    have g1 := run_eqGuard_agg (w := w) .neq t x y xs ys hg
    simp [execOp, ho, ex, ey, g1, run_neq_struct, h1, not_den]
   ·cases h
  ·rename_i hxa hya
   obtain ⟨ex, _⟩ := ev_ok hT hxa
   obtain ⟨ey, _⟩ := ev_ok hT hya
   have hc : ∀ {b}, isNilI y = b → b = true → y = .const .nilIface := by
    intro b e1 e2
    subst e2
    unfold isNilI at e1
    split at e1
    ·rfl
    ·cases e1
   split at h
   ·rename_i d hni hu
    simp only [Bool.and_eq_true] at hni
    obtain ⟨ms, rfl⟩ := isIface_t hni.2 hu
    obtain rfl := hc rfl hni.1
    have h1 := equal_nil (w := w) hu
    refine pure1 (v := .bool true) h rfl ?_
    simp [execOp, ho, ex, ey, eqGuard, binOp, h1]
   ·rename_i d hni hu
    simp only [Bool.and_eq_true] at hni
    obtain ⟨ms, rfl⟩ := isIface_t hni.2 hu
    obtain rfl := hc rfl hni.1
    have h1 := equal_nil (w := w) hu
    refine pure1 (v := .bool false) h rfl ?_
    simp [execOp, ho, ex, ey, eqGuard, binOp, h1]
   ·cases h
  ·cases h
 case h_2 t x =>
  have mk : isIface P t = false → ∀ v, (Instr.makeInterface t v).run P w = .ok (.iface t v) w := by
   intro hi v
   obtain ⟨d, hu, hd⟩ := isIface_f hi
   cases d <;> first | exact (hd _ rfl).elim | simp [Instr.makeInterface, run_underlying hu]
  split at h
  ·rename_i y hi hx
   refine pure1 (v := .iface t (a.eval x)) h ⟨_, rfl, ev_ok hT hx, trivial⟩ ?_
   simp [execOp, ho, mk hi]
  ·rename_i l hi hx
   split at h
   ·rename_i ys hys
    obtain ⟨cs, e, hcs⟩ := ev_ok hT hx
    refine pure1 (v := .iface t (a.eval x)) h ⟨cs, by rw [e], sfs_ok hys hcs⟩ ?_
    simp [execOp, ho, mk hi]
   ·cases h
  ·cases h
 case h_3 x xt t ok =>
  have und : isIface P t = false → ∃ d, P.underlying t = some d ∧ ∀ ms, d ≠ .interface ms := isIface_f
  split at h
  ·rename_i u ag l hi hx
   obtain ⟨d, hu, hd⟩ := und hi
   have hv := ev_ok hT hx
   split at h
   ·rename_i eu
    subst eu
    split at h
    ·rename_i l
     obtain ⟨cs, e, hcs⟩ := hv
     refine pure1 (v := .tuple #[.agg cs, .bool true]) h ⟨_, rfl, ⟨cs, rfl, All2.map hcs⟩, rfl, trivial⟩ ?_
     cases d <;> first | exact (hd _ rfl).elim | simp [execOp, ho, Instr.typeAssert, run_underlying hu, e]
    ·rename_i l
     obtain ⟨cs, e, hcs⟩ := hv
     refine pure1 (v := .agg cs) h ⟨cs, rfl, All2.map hcs⟩ ?_
     cases d <;> first | exact (hd _ rfl).elim | simp [execOp, ho, Instr.typeAssert, run_underlying hu, e]
    ·rename_i y
     obtain ⟨z, e, hz⟩ := hv
     refine pure1 (v := .tuple #[z, .bool true]) h ⟨_, rfl, hz.1, rfl, trivial⟩ ?_
     cases d <;> first | exact (hd _ rfl).elim | simp [execOp, ho, Instr.typeAssert, run_underlying hu, e]
    ·rename_i y
     obtain ⟨z, e, hz⟩ := hv
     refine pure1 (v := z) h hz.1 ?_
     cases d <;> first | exact (hd _ rfl).elim | simp [execOp, ho, Instr.typeAssert, run_underlying hu, e]
    ·cases h
   ·rename_i hne
    have hv' : ∃ z, a.eval x = .iface u z := by
     cases ag <;> (obtain ⟨z, e, _⟩ := hv; exact ⟨_, e⟩)
    obtain ⟨z, e⟩ := hv'
    split at h
    ·rename_i zz hz
     obtain ⟨zv, k1, k2⟩ := zeroV_ok (w := w) (R := R) hz
     refine pure1 (v := .tuple #[zv, .bool false]) h ⟨_, rfl, k2, rfl, trivial⟩ ?_
     cases d <;> first | exact (hd _ rfl).elim | simp [execOp, ho, Instr.typeAssert, run_underlying hu, e, hne, k1]
    ·cases h
  ·rename_i hi hx
   obtain ⟨d, hu, hd⟩ := und hi
   obtain ⟨e, _⟩ := ev_ok hT hx
   split at h
   ·rename_i zz hz
    obtain ⟨zv, k1, k2⟩ := zeroV_ok (w := w) (R := R) hz
    refine pure1 (v := .tuple #[zv, .bool false]) h ⟨_, rfl, k2, rfl, trivial⟩ ?_
    cases d <;> first | exact (hd _ rfl).elim | simp [execOp, ho, Instr.typeAssert, run_underlying hu, e, k1]
   ·cases h
  ·cases h
 case h_4 t ps =>
  split at h
  ·rename_i e hu hps
   split at h
   ·rename_i sz hs
    cases h
    obtain ⟨h1, _⟩ := sizeS_ok (w := w) hs
    obtain ⟨R', k1, k2, k3⟩ := hR.new (a := .ls []) (cs := #[]) trivial e
    have hp : ps = #[] := by
     apply Array.ext'
     simpa using hps
    refine ⟨R', _, _, k1, k3, ⟨_, 0, k2, rfl, rfl, Nat.le_refl _⟩, .inl ?_⟩
    have hb := run_buildSlice0 (P := P) (w := w) hu h1
    simp [execOp, ho, hp, hb, SN.den]
   ·cases h
  ·cases h
 case h_5 t =>
  exact newM (y := s) h (by simp [execOp, ho, run_makeMap_plain])
 case h_6 t x =>
  split at h
  ·rename_i kt et k n hu hx
   have e : a.eval x = .int _ _ := ev_ok hT hx
   refine newM (y := s) h ?_
   simp [execOp, ho, Instr.makeMap, run_underlying hu, asInt, asIntOf, e, run_newObj_alloc]
  ·cases h
 case h_7 t x k v =>
  exact upd h fun r c l hk => by simp [execOp, ho, hk]
 case h_8 t x k v =>
  exact upd h fun r c l hk => by simp [execOp, ho, hk]
 case h_9 t x k ok =>
  split at h
  ·rename_i kt et id key hu hx hkk
   split at h
   ·rename_i es hky hes
    obtain ⟨g, hg, ex⟩ := ev_ok hT hx
    have ek : key.ok R (a.eval k) := ev_ok hT hkk
    obtain ⟨kd, hd, hko⟩ := keyOk_ok hky
    obtain ⟨l, clock, k2, hl⟩ := es_ok hR hes hg
    have hc := fun e => run_checkKey' (P := P) (w := w) (k := a.eval k) hd hko e 9999
    split at h
    ·rename_i v hf
     obtain ⟨j, u, e1, e2⟩ := findS_ok hko ek 0 hf hl
     split at h
     ·refine pure1 (v := .tuple #[u, .bool true]) h ⟨_, rfl, e2, rfl, trivial⟩ ?_
      simp [execOp, ho, ex, Instr.lookup, run_underlying hu, getObj_map k2, hc, findKey_now hd e1]
     ·refine pure1 (v := u) h e2 ?_
      simp [execOp, ho, ex, Instr.lookup, run_underlying hu, getObj_map k2, hc, findKey_now hd e1]
    ·rename_i hf
     have e1 : Instr.findNow kd (a.eval k) l.toList 0 = some none := findS_ok hko ek 0 hf hl
     split at h
     ·rename_i z hz
      obtain ⟨zv, z1, z2⟩ := zeroV_ok (w := w) (R := R) hz
      refine pure1 (v := .tuple #[zv, .bool false]) h ⟨_, rfl, z2, rfl, trivial⟩ ?_
      simp [execOp, ho, ex, Instr.lookup, run_underlying hu, getObj_map k2, hc, findKey_now hd e1, z1]
     ·rename_i z hz
      obtain ⟨zv, z1, z2⟩ := zeroV_ok (w := w) (R := R) hz
      refine pure1 (v := zv) h z2 ?_
      simp [execOp, ho, ex, Instr.lookup, run_underlying hu, getObj_map k2, hc, findKey_now hd e1, z1]
     ·cases h
    ·cases h
   ·cases h
  ·cases h
 case h_10 args ts =>
  split at h
  ·rename_i t id off n cp ht hx
   obtain ⟨u, e, hu⟩ := arg1 hT hx
   rw [nth_eq, Array.getElem?_toList] at ht
   obtain ⟨g, ca, hg, rfl, _, hle⟩ := hu
   split at h
   ·rename_i e' hun
    refine pure1 (v := .tuple #[]) h ⟨#[], rfl, trivial⟩ ?_
    simp [execOp, ho, resolve, invoke, builtin, e, Builtin.clear_, ht, run_underlying hun, SN.den]
   ·rename_i e' n hun
    split at h
    ·rename_i z zs b hz hb
     split at h
     ·rename_i q2 r hw hp
      cases h
      obtain ⟨ie, zv, hi, hzz, hzo⟩ := zeroS_ok (R := R) hz
      have hzl := All2.len_eq hzo
      simp only [Array.length_toList, List.length_cons] at hzl
      obtain ⟨gb, cur, fzb, k4, k5, hzb, _, k6, k7⟩ := hR.set hb hw
      rw [hg] at k4
      cases k4
      have hrep : (SA.ls (repN (n + 1) (z :: zs))).ok R (Builtin.zeroCells zv.cells (n + 1)) := repN_ok hzo (by omega) (n + 1)
      obtain ⟨l3, l4⟩ := putS_ok hp hq k6 hrep
      have hst := run_store_row (P := P) (k := off.den) k5 hzb (ys := (Builtin.zeroCells zv.cells (n + 1)).toList) (by rw [Array.length_toList]; exact l3) (SA.one hrep)
      refine ⟨R, _, .tuple #[], ExtN.same _ R (by simp), k7 _ _ l4 (overA_size (by rw [Array.length_toList]; exact l3)), ⟨#[], rfl, trivial⟩, .inl ?_⟩
      have hcl := run_clear (P := P) (ty := o.type) (c := ca) ht hun hi hzz hst
      have e2 : (SN.l n.succ).den = n + 1 := rfl
      rw [e2] at e
      simp [execOp, ho, resolve, invoke, builtin, e, hcl]
     ·cases h
    ·cases h
   ·cases h
  ·cases h
 case h_11 args ts =>
  split at h
  ·rename_i t id ht hx
   obtain ⟨u, e, hu⟩ := arg1 hT hx
   rw [nth_eq, Array.getElem?_toList] at ht
   obtain ⟨g, hg, rfl⟩ := hu
   split at h
   ·rename_i kt et es hun hes
    obtain ⟨l, clock, k2, hl⟩ := es_ok hR hes hg
    have hlen := All2.len_eq hl
    simp only [Array.length_toList] at hlen
    refine pure1 (v := .int .i64 (l.size : Nat)) h ?_ ?_
    ·show _ = _
     rw [len_eq, hlen]
    ·simp [execOp, ho, resolve, invoke, builtin, e, Builtin.len_, ht, run_underlying hun, Builtin.lenOf, getObj_map k2, goInt]
   ·cases h
  ·cases h
 case h_12 => cases h
end
end Go.Proofs.YtdopckcockgefaaDoor
