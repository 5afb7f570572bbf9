/- Parts of rows, what is put over them; loads and stores. No condition. -/
import Derived.Test.YtjjeahnbppmigaaDoorK3
set_option linter.unusedVariables false
set_option linter.unusedSimpArgs false
namespace Go.Proofs.YtjjeahnbppmigaaDoor

def PartIs (P : Program) (t : TypeId) (cs : Array Value) (k : Nat) (v : Value) : Prop :=
  ∃ d i, P.underlying t = some d ∧ P.info? t = some i ∧
    ((isA d = true ∧ k + i.size ≤ cs.size ∧ v = .agg (cs.extract k (k + i.size))) ∨ (isA d = false ∧ cs[k]? = some v))

section
variable {P : Program} {w : World}
theorem run_isAgg {t : TypeId} {d : TypeDesc} (hu : P.underlying t = some d) : (isAgg t).run P w = .ok (isA d) w := by
  unfold isAgg
  rw [Sem.run_bind, run_underlying hu w]
  cases d <;> rfl
theorem run_part {t : TypeId} {cs : Array Value} {k : Nat} {v : Value} (h : PartIs P t cs k v) : (part t cs k).run P w = .ok v w := by
  obtain ⟨d, i, hu, hi, ⟨ha, _, rfl⟩ | ⟨ha, hc⟩⟩ := h
  · simp [part, Sem.run_bind, run_isAgg hu, ha, sizeOf, typeInfo, hi]
  · simp [part, Sem.run_bind, run_isAgg hu, ha, hc]
theorem run_load_at {g k : Nat} {cs : Array Value} {t : TypeId} {fz : Nat × Nat} {v : Value} (hg : w.heap[g]? = some (.cells cs t fz)) (hc : cs[k]? = some v) : (load ⟨g, k, none⟩).run P w = .ok v w := by
  have : w.cell? ⟨g, k, none⟩ = some v := by rw [cell_of_row w g k cs t fz hg]; exact hc
  simp [load, Sem.run, this]
theorem run_loadVar {t ty : TypeId} {cs : Array Value} {g k : Nat} {fz : Nat × Nat} {v : Value} (hg : w.heap[g]? = some (.cells cs ty fz)) (h : PartIs P t cs k v) : (loadVar t ⟨g, k, none⟩).run P w = .ok v w := by
  obtain ⟨d, i, hu, hi, ⟨ha, hk, rfl⟩ | ⟨ha, hc⟩⟩ := h
  · have hl : ((cs.toList.drop k).take i.size).length = i.size := by simp; omega
    have hr := run_loadCells_list (P := P) w ⟨g, k, none⟩ ((cs.toList.drop k).take i.size) (fun j v hv => by
      have hadd : (⟨g, k, none⟩ : Addr).add j = ⟨g, k + j, none⟩ := by unfold Addr.add; split <;> simp_all
      rw [hadd, cell_of_row w g (k + j) cs ty fz hg]
      rw [List.getElem?_take] at hv
      split at hv
      · simpa using hv
      · cases hv)
    rw [hl] at hr
    have e : ((cs.toList.drop k).take i.size).toArray = cs.extract k (k + i.size) := by
      apply Array.ext_getElem?
      intro j
      simp only [List.getElem?_toArray, List.getElem?_take, List.getElem?_drop, Array.getElem?_toList, Array.getElem?_extract]
      by_cases hj : j < i.size
      · rw [if_pos hj, if_pos (by omega)]
      · rw [if_neg hj, if_neg (by omega)]
    rw [e] at hr
    simp [loadVar, Sem.run_bind, run_isAgg hu, ha, sizeOf, typeInfo, hi, hr]
  · have hl := run_load_at (P := P) hg hc
    simp only [loadVar, Sem.run_bind, run_isAgg hu, ha, Result.andThen_ok, Bool.false_eq_true, if_false]
    exact hl

def overA (cur : Array Value) (k : Nat) (ys : List Value) : Array Value := (cur.toList.take k ++ ys ++ cur.toList.drop (k + ys.length)).toArray
theorem FzOk.free {w : World} {g k n : Nat} {cur : Array Value} {ty : TypeId} {fz : Nat × Nat} (hg : w.heap[g]? = some (.cells cur ty fz)) (hz : FzOk fz n) (hk : k < n) : w.frozen? ⟨g, k, none⟩ = false := by
  obtain ⟨lo, hi⟩ := fz
  simp only [World.frozen?, hg]
  rcases hz with hz | hz
  · cases hz
    simp
  · have hz : n ≤ lo := hz
    have : ¬ lo ≤ k := by omega
    simp [this]
theorem run_storeCells_Z (g o : Nat) (t : TypeId) (fz : Nat × Nat) : ∀ (vs : List Value) (i : Nat) (cur : Array Value) (w : World), w.heap[g]? = some (.cells cur t fz) → FzOk fz cur.size → o + i + vs.length ≤ cur.size → (∀ v ∈ vs, v.oneCell' = true) →
    (storeCells ⟨g, o, none⟩ vs i).run P w = .ok () (w.setRow g (cur.toList.take (o + i) ++ vs ++ cur.toList.drop (o + i + vs.length)).toArray)
  | [], i, cur, w, hg, _, _, _ => by
    have e : (cur.toList.take (o + i) ++ [] ++ cur.toList.drop (o + i + ([] : List Value).length)).toArray = cur := by
      rw [List.append_nil, List.length_nil, Nat.add_zero, List.take_append_drop]
    rw [e, setRow_self w g cur t fz hg]
    rfl
  | v :: rest, i, cur, w, hg, hz, hl, h1 => by
    have hl' : o + i + (rest.length + 1) ≤ cur.size := hl
    have hi : o + i < cur.size := by omega
    have hadd : (⟨g, o, none⟩ : Addr).add i = ⟨g, o + i, none⟩ := by unfold Addr.add; split <;> simp_all
    have hst : (store ((⟨g, o, none⟩ : Addr).add i) v).run P w = .ok () (w.setRow g (cur.setIfInBounds (o + i) v)) := by
      have hcell : w.cell? ⟨g, o + i, none⟩ = some cur[o + i] := by simp [World.cell?, hg, hi]
      rw [hadd, run_store P w _ v _ (h1 v (List.mem_cons_self ..)), hcell]
      simp [FzOk.free hg hz hi, setCell_eq_setRow w g (o + i) cur t fz v hg]
    have ih := run_storeCells_Z g o t fz rest (i + 1) (cur.setIfInBounds (o + i) v) (w.setRow g (cur.setIfInBounds (o + i) v)) (setRow_heap w g cur _ t _ hg) (by rw [Array.size_setIfInBounds]; exact hz) (by rw [Array.size_setIfInBounds]; omega) (fun x hx => h1 x (List.mem_cons_of_mem _ hx))
    simp only [storeCells, Sem.run_bind, hst, Result.andThen_ok, ih, setRow_setRow]
    congr 3
    have e := list_seg_step cur.toList (o + i) v rest (by rw [Array.length_toList]; omega)
    simpa [Array.toList_setIfInBounds, Nat.add_assoc] using e
theorem run_storeVar {t ty : TypeId} {cur : Array Value} {g k : Nat} {i : TypeInfo} {v : Value} {fz : Nat × Nat} (hg : w.heap[g]? = some (.cells cur ty fz)) (hz : FzOk fz cur.size) (hi : P.info? t = some i) (hs : v.cells.size = i.size)
    (hk : k + v.cells.size ≤ cur.size) (h1 : ∀ u ∈ v.cells.toList, u.oneCell' = true) : (storeVar t ⟨g, k, none⟩ v).run P w = .ok () (w.setRow g (overA cur k v.cells.toList)) := by
  have h := run_storeCells_Z (P := P) g k ty fz v.cells.toList 0 cur w hg hz (by simpa using hk) h1
  simp only [Nat.add_zero] at h
  simp [storeVar, Sem.run_bind, sizeOf, typeInfo, hi, hs, h, overA]
end

theorem overA_size {cur : Array Value} {k : Nat} {ys : List Value} (h : k + ys.length ≤ cur.size) : (overA cur k ys).size = cur.size := by
  unfold overA
  simp only [List.size_toArray, List.length_append, List.length_take, List.length_drop, Array.length_toList]
  omega
theorem overA_set {cur : Array Value} {k : Nat} {v : Value} (h : k < cur.size) : overA cur k [v] = cur.setIfInBounds k v := by
  apply Array.ext'
  unfold overA
  simp only [Array.toList_setIfInBounds, List.length_cons, List.length_nil, List.append_assoc, List.cons_append, List.nil_append]
  rw [List.set_eq_take_append_cons_drop, if_pos (by simpa using h)]
theorem overA_all {cur ys : Array Value} (h : ys.size = cur.size) : overA cur 0 ys.toList = ys := by
  apply Array.ext'
  unfold overA
  simp [h]

section
variable {R : Ren}
theorem plain_ok {c : SC} {v u : Value} (h : c.plain = some v) (hc : c.ok R u) : u = v := by
  cases c with
  | f x => cases x <;> simp [SC.plain] at h <;> first | (subst h; exact hc) | (subst h; exact hc.1)
  | fn g a b => cases h
  | yl id => cases h
  | ifc t a l => cases h
theorem plains_ok : ∀ {l : List SC} {vs us : List Value}, plains l = some vs → All2 (SC.ok R) l us → us = vs
  | [], vs, [], h, _ => by simp [plains] at h; exact h.symm
  | [], _, _ :: _, _, hu => hu.elim
  | _ :: _, _, [], _, hu => hu.elim
  | c :: l, vs, u :: us, h, hu => by
    simp only [plains] at h
    split at h
    · rename_i v r hv hr
      cases h
      rw [plain_ok hv hu.1, plains_ok hr hu.2]
    · cases h

theorem one_list {y : SC} {v : Value} : ∀ {l : List Value}, y.plain = some v → All2 (SC.ok R) [y] l → l = [v]
  | [_], h, hu => by rw [plain_ok h hu.1]
  | [], _, hu => hu.elim
  | _ :: _ :: _, _, hu => hu.2.elim
theorem pop_size {ds cs : Array Value} (h : (SA.pop ds).ok R cs) : ds.size ≤ cs.size := by
  have := congrArg List.length h.1
  simp only [List.length_take, Array.length_toList] at this
  omega
theorem pop_get {ds cs : Array Value} (h : (SA.pop ds).ok R cs) {i : Nat} {v : Value} (hv : ds[i]? = some v) : cs[i]? = some v := by
  have hlt : i < ds.size := (Array.getElem?_eq_some_iff.1 hv).1
  rw [← Array.getElem?_toList, ← h.1, List.getElem?_take, if_pos hlt, Array.getElem?_toList] at hv
  exact hv
theorem partS0_ok {P : Program} {t : TypeId} {a : SA} {off : SN} {q : List Prop} {s : S1} {cs : Array Value} (h : partS0 P t a off = some (q, s)) (hq : ∀ p ∈ q, p) (ha : a.okM R cs) :
    ∃ v, PartIs P t cs off.den v ∧ s.ok R v := by
  unfold partS0 at h
  split at h
  · cases h
  rename_i d hu
  split at h
  · cases h
  rename_i i hi
  have ext : ∀ (k : Nat) (l : List SC) (r : List SC), Nat.ble (k + i.size) (len l) = true → takeN (dropN l k) i.size = some r → All2 (SC.ok R) l (cs.toList.take l.length) →
      k + i.size ≤ cs.size ∧ All2 (SC.ok R) r (cs.extract k (k + i.size)).toList := by
    intro k l r hb hr hl
    obtain ⟨rfl, _⟩ := takeN_eq hr
    rw [Nat.ble_eq, len_eq] at hb
    have e := hl.len_eq
    simp only [List.length_take, Array.length_toList] at e
    refine ⟨by omega, ?_⟩
    rw [dropN_eq]
    have e2 : (cs.extract k (k + i.size)).toList = ((cs.toList.take l.length).drop k).take i.size := by
      apply List.ext_getElem?
      intro j
      simp only [Array.getElem?_toList, Array.getElem?_extract, List.getElem?_take, List.getElem?_drop]
      by_cases hj : j < i.size
      · rw [if_pos (by omega), if_pos hj, if_pos (by omega)]
      · rw [if_neg (by omega), if_neg hj]
    rw [e2]
    exact (hl.drop k).take i.size
  have one : ∀ (k : Nat) (l : List SC) (c : SC), nth l k = some c → All2 (SC.ok R) l (cs.toList.take l.length) → ∃ v, cs[k]? = some v ∧ c.ok R v := by
    intro k l c hr hl
    obtain ⟨v, hv, hc⟩ := hl.nth hr
    rw [List.getElem?_take] at hv
    split at hv
    · exact ⟨v, by simpa using hv, hc⟩
    · cases hv
  have whole : ∀ l, SA.ok R (.ls l) cs → All2 (SC.ok R) l (cs.toList.take l.length) := by
    intro l hl
    have e := All2.len_eq hl
    rw [List.take_of_length_le (by omega)]
    exact hl
  cases hA : isA d <;> simp only [hA] at h
  · have mk : ∀ v, cs[off.den]? = some v → PartIs P t cs off.den v := fun v hv => ⟨d, i, hu, hi, .inr ⟨hA, hv⟩⟩
    split at h
    · split at h
      · rename_i c hc
        cases h
        obtain ⟨v, hv, h2⟩ := one _ _ _ hc (whole _ ha)
        exact ⟨v, mk v hv, h2⟩
      · cases h
    · split at h
      · rename_i c hc
        cases h
        obtain ⟨v, hv, h2⟩ := one _ _ _ hc ha.1
        exact ⟨v, mk v hv, h2⟩
      · cases h
    · obtain ⟨rfl, ha1⟩ := ha
      split at h
      · cases h
        have hx := hq _ (List.mem_singleton.2 rfl)
        exact ⟨_, mk _ hx, rfl⟩
      · cases h
        have hx := hq _ (List.mem_singleton.2 rfl)
        exact ⟨_, mk _ hx, rfl⟩
      · cases h
        have hx := hq _ (List.mem_singleton.2 rfl)
        exact ⟨_, mk _ hx, rfl, rfl⟩
      · cases h
        obtain ⟨v, hv, h1⟩ := hq _ (List.mem_singleton.2 rfl)
        have e : valAt cs off.den = v := by simp [valAt, hv]
        exact ⟨v, mk v hv, e.symm, by rw [e]; exact h1⟩
    · rename_i ds
      have up : ∀ {v}, ds[off.den]? = some v → cs[off.den]? = some v := fun hv => pop_get (R := R) ha hv
      split at h
      · cases h
        have hx := hq _ (List.mem_singleton.2 rfl)
        exact ⟨_, mk _ (up hx), rfl⟩
      · cases h
        have hx := hq _ (List.mem_singleton.2 rfl)
        exact ⟨_, mk _ (up hx), rfl⟩
      · cases h
        have hx := hq _ (List.mem_singleton.2 rfl)
        exact ⟨_, mk _ (up hx), rfl, rfl⟩
      · cases h
        obtain ⟨v, hv, h1⟩ := hq _ (List.mem_singleton.2 rfl)
        have e : valAt ds off.den = v := by simp [valAt, hv]
        exact ⟨v, mk v (up hv), e.symm, by rw [e]; exact h1⟩
    · have ha : cs = _ := ha
      subst ha
      split at h
      · cases h
        have hx := hq _ (List.mem_singleton.2 rfl)
        exact ⟨_, mk _ hx, rfl⟩
      · cases h
        have hx := hq _ (List.mem_singleton.2 rfl)
        exact ⟨_, mk _ hx, rfl⟩
      · cases h
        have hx := hq _ (List.mem_singleton.2 rfl)
        exact ⟨_, mk _ hx, rfl, rfl⟩
      · cases h
        obtain ⟨v, hv, h1⟩ := hq _ (List.mem_singleton.2 rfl)
        have e : valAt cs off.den = v := by unfold valAt; rw [hv]; rfl
        exact ⟨v, mk v hv, e.symm, by rw [e]; exact h1⟩
    · split at h
      · rename_i vs hvs
        have e : cs = vs.toArray := by
          have := plains_ok hvs ha
          rw [← this]
        subst e
        split at h
        · cases h
          have hx := hq _ (List.mem_singleton.2 rfl)
          exact ⟨_, mk _ hx, rfl⟩
        · cases h
          have hx := hq _ (List.mem_singleton.2 rfl)
          exact ⟨_, mk _ hx, rfl⟩
        · cases h
      · cases h
    · cases h
  · have mk : off.den + i.size ≤ cs.size → PartIs P t cs off.den (.agg (cs.extract off.den (off.den + i.size))) := fun hk => ⟨d, i, hu, hi, .inl ⟨hA, hk, rfl⟩⟩
    split at h
    · split at h
      · rename_i r hb hr
        cases h
        obtain ⟨h1, h2⟩ := ext _ _ _ hb hr (whole _ ha)
        exact ⟨_, mk h1, _, rfl, h2⟩
      · cases h
    · split at h
      · rename_i r hb hr
        cases h
        obtain ⟨h1, h2⟩ := ext _ _ _ hb hr ha.1
        exact ⟨_, mk h1, _, rfl, h2⟩
      · cases h
    · cases h
      obtain ⟨rfl, ha1⟩ := ha
      have hx : cs.size = i.size := hq _ (List.mem_singleton.2 rfl)
      refine ⟨_, mk (by simp [SN.den, hx]), _, rfl, ?_⟩
      have e : cs.extract (SN.l 0).den ((SN.l 0).den + i.size) = cs := by simp [SN.den, ← hx]
      rw [e]
      exact ⟨rfl, ha1⟩
    · cases h
      have hx := hq _ (List.mem_singleton.2 rfl)
      obtain ⟨⟨v, h1, h2⟩, h3⟩ := ha
      have hx' : cs.size = i.size := by rw [h2, Array.size_setIfInBounds]; exact hx
      refine ⟨_, mk (by simp [SN.den, hx']), _, rfl, ?_⟩
      have e : cs.extract (SN.l 0).den ((SN.l 0).den + i.size) = cs := by simp [SN.den, ← hx']
      rw [e]
      exact ⟨⟨v, h1, h2⟩, h3⟩
    · cases h
      obtain ⟨rfl, ha1⟩ := ha
      have hx := hq _ (List.mem_singleton.2 rfl)
      refine ⟨_, mk hx, _, rfl, rfl, fun v hv => ha1 v ?_⟩
      rw [Array.toList_extract] at hv
      exact List.mem_of_mem_take (List.mem_of_mem_drop (by simpa [List.extract, List.take_drop] using hv))
    · rename_i ds
      cases h
      have hx := hq _ (List.mem_singleton.2 rfl)
      have hs := pop_size (R := R) ha
      have e : ds.extract off.den (off.den + i.size) = cs.extract off.den (off.den + i.size) := by
        apply Array.ext_getElem?
        intro j
        simp only [Array.getElem?_extract]
        split
        · rename_i hj
          split
          · have : off.den + j < ds.size := by omega
            have h1 : ds[off.den + j]? = some ds[off.den + j] := Array.getElem?_eq_getElem this
            rw [h1, pop_get (R := R) ha h1]
          · rename_i hj2
            exact (hj2 (by omega)).elim
        · rename_i hj
          split
          · rename_i hj2
            exact (hj (by omega)).elim
          · rfl
      refine ⟨_, mk (by omega), _, rfl, by rw [e], fun v hv => ha.2 v ?_⟩
      rw [Array.toList_extract] at hv
      exact List.mem_of_mem_take (List.mem_of_mem_drop (by simpa [List.extract, List.take_drop] using hv))
    · have ha : cs = _ := ha
      subst ha
      cases h
      have hx := hq _ (List.mem_cons_self ..)
      have hy := hq _ (List.mem_cons_of_mem _ (List.mem_singleton.2 rfl))
      exact ⟨_, mk hx, _, rfl, rfl, hy⟩
    · cases h
theorem takeN_all {α : Type} {l : List α} {n : Nat} (h : len l = n) : takeN (dropN l 0) n = some l := by
  have hd : dropN l 0 = l := by cases l <;> rfl
  rw [hd]
  unfold takeN
  have hb : Nat.ble n (len l) = true := by rw [h]; exact Nat.ble_eq_true_of_le (Nat.le_refl _)
  rw [hb]
  dsimp only
  rw [takeL_eq]
  congr 1
  rw [len_eq] at h
  exact List.take_of_length_le (by omega)
theorem partS_eq {P : Program} {t : TypeId} {a : SA} {off : SN} {q : List Prop} {s : S1} (h : partS P t a off = some (q, s)) : partS0 P t a off = some (q, s) := by
  unfold partS at h
  split at h
  · rename_i l k
    split at h
    · rename_i d i hu hi
      split at h
      · rename_i hw
        cases h
        rw [Bool.and_eq_true] at hw
        obtain ⟨h1, h2⟩ := hw
        unfold wholeL at h2
        split at h2
        · have h2 := Nat.eq_of_beq_eq_true h2
          unfold partS0
          rw [hu]
          dsimp only
          rw [hi]
          dsimp only
          rw [h1]
          dsimp only
          have hb : Nat.ble (0 + i.size) (len l) = true := by rw [h2, Nat.zero_add]; exact Nat.ble_eq_true_of_le (Nat.le_refl _)
          rw [hb, takeN_all h2]
        · cases h2
      · exact h
    · cases h
  · exact h
theorem partS_ok {P : Program} {t : TypeId} {a : SA} {off : SN} {q : List Prop} {s : S1} {cs : Array Value} (h : partS P t a off = some (q, s)) (hq : ∀ p ∈ q, p) (ha : a.okM R cs) :
    ∃ v, PartIs P t cs off.den v ∧ s.ok R v := partS0_ok (partS_eq h) hq ha
theorem addL_den (off : SN) (k : Nat) : (off.add (.l k)).den = off.den + k := by cases off <;> rfl
theorem leafC_ok {nl : Bool} {cs cs' : Array Value} {off : SN} (up : ∀ {j : Nat} {v : Value}, cs[j]? = some v → cs'[j]? = some v) : ∀ (ds : List TypeDesc) (k : Nat), (∀ p ∈ (leafC nl cs off k ds).1, p) →
    ∃ vs : List Value, vs.length = ds.length ∧ All2 (SC.ok R) (leafC nl cs off k ds).2 vs ∧ ∀ j : Nat, j < ds.length → cs'[off.den + k + j]? = vs[j]?
  | [], _, _ => ⟨[], rfl, trivial, fun j hj => absurd hj (Nat.not_lt_zero j)⟩
  | d :: r, k, h => by
    have go : ∀ (p : Prop) (c : SC) (v : Value), (leafC nl cs off k (d :: r)) = (p :: (leafC nl cs off (k + 1) r).1, c :: (leafC nl cs off (k + 1) r).2) → (p → cs[off.den + k]? = some v ∧ c.ok R v) →
        ∃ vs : List Value, vs.length = (d :: r).length ∧ All2 (SC.ok R) (leafC nl cs off k (d :: r)).2 vs ∧ ∀ j : Nat, j < (d :: r).length → cs'[off.den + k + j]? = vs[j]? := by
      intro p c v e hp
      rw [e] at h ⊢
      obtain ⟨vs, h1, h2, h3⟩ := leafC_ok up r (k + 1) fun q hq => h q (List.mem_cons_of_mem _ hq)
      obtain ⟨h4, h5⟩ := hp (h p List.mem_cons_self)
      refine ⟨v :: vs, by simp [h1], ⟨h5, h2⟩, fun j hj => ?_⟩
      cases j with
      | zero => rw [Nat.add_zero, up h4]; rfl
      | succ j =>
        have := h3 j (by simp at hj; omega)
        rw [show off.den + k + (j + 1) = off.den + (k + 1) + j by omega, this]
        rfl
    cases d <;> first
      | exact go _ _ _ rfl (fun hp => by rw [addL_den] at hp ⊢; exact ⟨hp, rfl⟩)
      | (cases nl
         · exact go _ _ (valAt cs (off.add (.l k)).den) rfl (fun hp => by
            rw [addL_den] at hp ⊢
            obtain ⟨v, hv, h1⟩ := hp
            have e : valAt cs (off.den + k) = v := by unfold valAt; rw [hv]; rfl
            rw [e]
            exact ⟨hv, rfl, h1⟩)
         · exact go _ _ (.slice none 0 0) rfl (fun hp => by rw [addL_den] at hp; exact ⟨hp, rfl, rfl⟩))
      | exact go _ _ (valAt cs (off.add (.l k)).den) rfl (fun hp => by
          rw [addL_den] at hp ⊢
          obtain ⟨v, hv, h1⟩ := hp
          have e : valAt cs (off.den + k) = v := by unfold valAt; rw [hv]; rfl
          rw [e]
          exact ⟨hv, rfl, h1⟩)
theorem forceN_eq {α : Type} : ∀ (n : Nat) (k : Nat → α), forceN n k = k n
  | 0, _ => rfl
  | n + 1, k => forceN_eq n fun r => k (r + 1)
theorem forceL_eq {α : Type} : ∀ (l : List Int) (k : Nat → List Int → α), forceL l k = k l.length l
  | [], _ => rfl
  | x :: l, k => forceL_eq l fun n r => k (n + 1) (x :: r)
theorem sufC_case (kd : IntKind) (c : SC) (vs : List Int) : (∃ n : SI, c = .f (.int kd n) ∧ sufC kd c vs = (0, n.den :: vs)) ∨ sufC kd c vs = (1, vs) := by
  unfold sufC
  split
  · rename_i k n
    by_cases hk : k = kd
    · subst hk
      exact .inl ⟨n, rfl, by rw [decide_eq_true rfl]⟩
    · exact .inr (by rw [decide_eq_false hk])
  · exact .inr rfl
theorem sufV_zero {kd : IntKind} {c : SC} {l : List SC} {vs : List Int} (e : sufV kd l = (0, vs)) : sufV kd (c :: l) = sufC kd c vs := by
  show (match sufV kd l with | (0, vs) => _ | (n + 1, vs) => _) = _
  rw [e]
theorem sufV_succ {kd : IntKind} {c : SC} {l : List SC} {n : Nat} {vs : List Int} (e : sufV kd l = (n + 1, vs)) : sufV kd (c :: l) = (n + 2, vs) := by
  show (match sufV kd l with | (0, vs) => _ | (n + 1, vs) => _) = _
  rw [e]
theorem sufV_len (kd : IntKind) : ∀ l : List SC, (sufV kd l).1 + (sufV kd l).2.length = l.length
  | [] => rfl
  | c :: l => by
    have ih := sufV_len kd l
    rcases e : sufV kd l with ⟨n, vs⟩
    rw [e] at ih
    dsimp only at ih
    cases n with
    | zero =>
      rw [sufV_zero e]
      rcases sufC_case kd c vs with ⟨n, _, e2⟩ | e2 <;> rw [e2] <;> simp only [List.length_cons] <;> omega
    | succ n =>
      rw [sufV_succ e]
      simp only [List.length_cons]; omega
theorem sufV_at (kd : IntKind) : ∀ {l : List SC} {j : Nat}, (sufV kd l).1 ≤ j → j < l.length → ∃ n : SI, l[j]? = some (.f (.int kd n)) ∧ n.den = intL (sufV kd l).2 (j - (sufV kd l).1)
  | [], _, _, h => by simp at h
  | c :: l, j, h1, h2 => by
    have ih := fun j => @sufV_at kd l j
    rcases e : sufV kd l with ⟨n, vs⟩
    rw [e] at ih
    dsimp only at ih
    simp only [List.length_cons] at h2
    cases n with
    | zero =>
      have later : 1 ≤ j → ∃ n : SI, (c :: l)[j]? = some (.f (.int kd n)) ∧ n.den = intL vs (j - 1) := fun hj => by
        obtain ⟨i, rfl⟩ : ∃ i, j = i + 1 := ⟨j - 1, by omega⟩
        rw [List.getElem?_cons_succ]
        have := ih i (Nat.zero_le _) (by omega)
        rwa [Nat.sub_zero] at this
      rw [sufV_zero e] at h1 ⊢
      rcases sufC_case kd c vs with ⟨n, rfl, e2⟩ | e2
      · rw [e2]
        rcases Nat.eq_zero_or_pos j with rfl | hj
        · exact ⟨n, rfl, rfl⟩
        · obtain ⟨n', a, b⟩ := later hj
          refine ⟨n', a, b.trans ?_⟩
          obtain ⟨i, rfl⟩ : ∃ i, j = i + 1 := ⟨j - 1, by omega⟩
          rfl
      · rw [e2] at h1 ⊢
        exact later h1
    | succ n =>
      rw [sufV_succ e] at h1 ⊢
      dsimp only at h1 ⊢
      obtain ⟨i, rfl⟩ : ∃ i, j = i + 1 := ⟨j - 1, by omega⟩
      obtain ⟨x, a, b⟩ := ih i (by omega) (by omega)
      refine ⟨x, by rw [List.getElem?_cons_succ]; exact a, b.trans ?_⟩
      congr 1
      omega
theorem sufP_ok {P : Program} {t : TypeId} {a : SA} {off : SN} {q : List Prop} {s : S1} {cs : Array Value} (h : sufP P t a off = some (q, s)) (hq : ∀ p ∈ q, p) (ha : a.okM R cs) :
    ∃ v, PartIs P t cs off.den v ∧ s.ok R v := by
  unfold sufP at h
  split at h
  · rename_i l k kd i hu hi
    rw [forceN_eq, forceL_eq] at h
    cases h
    obtain ⟨h1, h2⟩ := hq _ (List.mem_singleton.2 rfl)
    rw [sufV_len] at h2
    obtain ⟨n, e1, e2⟩ := sufV_at kd h1 h2
    have ha : All2 (SC.ok R) l cs.toList := ha
    obtain ⟨v, hv, hc⟩ := ha.at e1
    have hc : v = .int kd n.den := hc
    rw [Array.getElem?_toList] at hv
    exact ⟨v, ⟨_, i, hu, hi, .inr ⟨rfl, hv⟩⟩, hc.trans (by rw [e2])⟩
  · cases h
theorem partL_ok {P : Program} {t : TypeId} {a : SA} {off : SN} {q : List Prop} {s : S1} {cs : Array Value} (h : partL P t a off = some (q, s)) (hq : ∀ p ∈ q, p) (ha : a.okM R cs) :
    ∃ v, PartIs P t cs off.den v ∧ s.ok R v := by
  unfold partL at h
  split at h
  case h_2 =>
    split at h
    · rename_i r hr
      cases h
      exact partS_ok hr hq ha
    · exact sufP_ok h hq ha
  rename_i ds hr
  split at h
  case h_2 => exact partS_ok h hq ha
  rename_i d i l hu hi hl
  split at h
  case h_2 => exact partS_ok h hq ha
  rename_i hc
  cases h
  simp only [Bool.and_eq_true, Nat.ble_eq, len_eq] at hc
  obtain ⟨⟨⟨hd, hc⟩, _⟩, hpos⟩ := hc
  have hc := Nat.eq_of_beq_eq_true hc
  have up : ∀ {j : Nat} {v : Value}, ds[j]? = some v → cs[j]? = some v := by
    intro j v hv
    unfold rawOf at hr
    split at hr
    · cases hr; obtain ⟨rfl, _⟩ := ha; exact hv
    · cases hr; exact pop_get (R := R) ha hv
    · cases hr; have ha : cs = _ := ha; subst ha; exact hv
    · cases hr
  obtain ⟨vs, h1, h2, h3⟩ := leafC_ok (R := R) (off := off) up l 0 hq
  have hlast : off.den + i.size ≤ cs.size := by
    have := h3 (i.size - 1) (by omega)
    rw [List.getElem?_eq_getElem (by omega)] at this
    have := (Array.getElem?_eq_some_iff.1 this).1
    omega
  have hA : isA d = true := by cases d <;> first | rfl | cases hd
  refine ⟨.agg (cs.extract off.den (off.den + i.size)), ⟨d, i, hu, hi, .inl ⟨hA, hlast, rfl⟩⟩, _, rfl, ?_⟩
  have e : (cs.extract off.den (off.den + i.size)).toList = vs := by
    apply List.ext_getElem?
    intro j
    rw [Array.getElem?_toList, Array.getElem?_extract]
    by_cases hj : j < i.size
    · rw [if_pos (by omega), ← h3 j (by omega), Nat.add_zero]
    · rw [if_neg (by omega), List.getElem?_eq_none (by omega)]
  show All2 (SC.ok R) _ _
  rw [e]
  exact h2

theorem cells_ok {s : SV} {a : SA} {v : Value} (h : s.cells = some a) (hs : s.ok R v) : a.ok R v.cells := by
  cases s with
  | tup l => cases h
  | s x =>
    cases x with
    | c x =>
      cases h
      have h1 := SC.one hs
      have e : v.cells = #[v] := by cases v <;> first | rfl | cases h1
      rw [e]
      exact ⟨hs, trivial⟩
    | agg a =>
      cases h
      obtain ⟨cs, rfl, h2⟩ := hs
      exact h2
theorem fits_ok {P : Program} {t : TypeId} {a : SA} {q : List Prop} {cs : Array Value} (h : fitsS P t a = some q) (hq : ∀ p ∈ q, p) (ha : a.ok R cs) : ∃ i, P.info? t = some i ∧ cs.size = i.size := by
  unfold fitsS sizeS at h
  cases hi : P.info? t with
  | none => simp [hi] at h
  | some i =>
    refine ⟨i, rfl, ?_⟩
    cases a with
    | ls l =>
      simp only [hi, Option.map_some] at h
      split at h
      · rename_i e
        rw [e, len_eq]
        have := All2.len_eq ha
        simpa using this.symm
      · cases h
    | pre l => simp [hi] at h
    | op c =>
      simp only [hi, Option.map_some, Option.some.injEq] at h
      subst h
      rw [ha.1]
      exact hq _ (List.mem_singleton.2 rfl)
    | pop c => simp [hi] at h
    | raw c => simp [hi] at h
    | patch c o x =>
      simp only [hi, Option.map_some, Option.some.injEq] at h
      subst h
      obtain ⟨⟨v, _, e⟩, _⟩ := ha
      rw [e, Array.size_setIfInBounds]
      exact hq _ (List.mem_singleton.2 rfl)

theorem over_ls {l y : List SC} {k : Nat} {r : List SC} {cur ys : List Value} (h : splice l k y = some r) (hl : All2 (SC.ok R) l (cur.take l.length)) (hy : All2 (SC.ok R) y ys) :
    r.length = l.length ∧ k + ys.length ≤ l.length ∧ All2 (SC.ok R) r ((cur.take k ++ ys ++ cur.drop (k + ys.length)).take l.length) := by
  obtain ⟨rfl, hk⟩ := splice_eq h
  have e := hy.len_eq
  have e2 := hl.len_eq
  simp only [List.length_take] at e2
  refine ⟨?_, by omega, ?_⟩
  · simp only [List.length_append, List.length_take, List.length_drop]; omega
  · have e3 : (cur.take k ++ ys ++ cur.drop (k + ys.length)).take l.length = ((cur.take l.length).take k ++ ys) ++ (cur.take l.length).drop (k + ys.length) := by
      rw [List.take_take, Nat.min_eq_left (by omega : k ≤ l.length), List.take_append, List.take_of_length_le (by simp; omega), List.drop_take]
      congr 2
      simp only [List.length_append, List.length_take]
      omega
    rw [e3, e]
    have := hl.drop (k + ys.length)
    exact ((hl.take k).append hy).append this

theorem pop_over {ds cur : Array Value} {o : Nat} {vs : List Value} (ha : cur.toList.take ds.size = ds.toList) (hsz : ds.size ≤ cur.size) (hs : o + vs.length ≤ ds.size) : (overA cur o vs).toList.take (putAt ds o vs).size = (putAt ds o vs).toList := by
  have e1 : (putAt ds o vs).size = ds.size := by
    simp only [putAt, List.size_toArray, List.length_append, List.length_take, List.length_drop, Array.length_toList]
    omega
  rw [e1]
  simp only [overA, putAt]
  rw [← ha]
  apply List.ext_getElem?
  intro j
  simp only [List.getElem?_take, List.getElem?_append, List.getElem?_drop, List.length_take, List.length_append, Array.length_toList]
  by_cases h1 : j < o
  · rw [if_pos (by omega), if_pos (by omega), if_pos (by omega), if_pos h1, if_pos (by omega), if_pos (by omega), if_pos h1, if_pos (by omega)]
  · by_cases h2 : j < o + vs.length
    · rw [if_pos (by omega), if_pos (by omega), if_neg (by omega), if_pos (by omega), if_neg (by omega)]
      congr 1
      omega
    · by_cases h3 : j < ds.size
      · rw [if_pos h3, if_neg (by omega), if_neg (by omega)]
        rw [if_pos (by omega)]
        congr 1
        omega
      · rw [if_neg h3, if_neg (by omega), if_neg (by omega)]
theorem oneS_ok : ∀ {y : List SC} {vs us : List Value} {j : Nat} {x : SF}, oneS y = some (vs, j, x) → All2 (SC.ok R) y us → ∃ v, x.ok R v ∧ j < vs.length ∧ us = vs.set j v
  | [], _, _, _, _, h, _ => by cases h
  | c :: l, vs, [], j, x, _, hu => hu.elim
  | c :: l, vs, u :: us, j, x, h, hu => by
    unfold oneS at h
    split at h
    · cases h
    · rename_i e
      cases e
      split at h
      · rename_i vs' hv
        cases h
        exact ⟨u, hu.1, by simp, by rw [plains_ok hv hu.2]; rfl⟩
      · cases h
    · rename_i e
      cases e
      split at h
      · rename_i vs' hv
        cases h
        exact ⟨u, hu.1, by simp, by rw [plains_ok hv hu.2]; rfl⟩
      · cases h
    · rename_i e
      cases e
      split at h
      · rename_i vs' hv
        cases h
        exact ⟨u, hu.1, by simp, by rw [plains_ok hv hu.2]; rfl⟩
      · cases h
    · rename_i e
      cases e
      split at h
      · rename_i v vs' j' x' hv hr
        cases h
        obtain ⟨w, h1, h2, h3⟩ := oneS_ok hr hu.2
        exact ⟨w, h1, by simpa using h2, by rw [h3, plain_ok hv hu.1]; rfl⟩
      · cases h
theorem over_patch {cur : Array Value} {k j : Nat} {vs : List Value} {v : Value} (h : k + vs.length ≤ cur.size) (hj : j < vs.length) : overA cur k (vs.set j v) = (putAt cur k vs).setIfInBounds (k + j) v := by
  apply Array.ext'
  have e1 : (cur.toList.take k).length = k := by rw [List.length_take, Array.length_toList]; omega
  simp only [overA, putAt, Array.toList_setIfInBounds, List.length_set, List.append_assoc]
  rw [List.set_append_right _ _ (by omega), e1, Nat.add_sub_cancel_left, List.set_append_left _ _ hj]
theorem putS0_ok {a x r : SA} {off : SN} {q : List Prop} {cur ys : Array Value} (h : putS0 a off x = some (q, r)) (hq : ∀ p ∈ q, p) (ha : a.okM R cur) (hx : x.ok R ys) :
    off.den + ys.size ≤ cur.size ∧ r.ok R (overA cur off.den ys.toList) := by
  replace ha : a.ok R cur := by
    cases a with
    | raw c => cases x <;> cases h
    | _ => exact ha
  have oneA : ∀ u ∈ (overA cur off.den ys.toList).toList, u.oneCell' = true := by
    intro u hu
    simp only [overA, List.append_assoc, List.mem_append] at hu
    rcases hu with hu | hu | hu
    · exact SA.one ha u (List.mem_of_mem_take hu)
    · exact SA.one hx u hu
    · exact SA.one ha u (List.mem_of_mem_drop hu)
  unfold putS0 at h
  split at h
  · rename_i l k y
    split at h
    · rename_i r' hr
      cases h
      have e := All2.len_eq ha
      simp only [Array.length_toList] at e
      obtain ⟨h1, h2, h3⟩ := over_ls (cur := cur.toList) (ys := ys.toList) hr (by rw [List.take_of_length_le (by rw [Array.length_toList]; omega)]; exact ha) hx
      simp only [Array.length_toList] at h2
      refine ⟨by show k + _ ≤ _; omega, ?_⟩
      have e5 : (overA cur k ys.toList).toList.take l.length = (overA cur k ys.toList).toList :=
        List.take_of_length_le (by rw [Array.length_toList, overA_size (by simp; omega)]; omega)
      show All2 (SC.ok R) r' (overA cur k ys.toList).toList
      rw [← e5]
      exact h3
    · cases h
  · rename_i l k y
    split at h
    · rename_i r' hr
      cases h
      obtain ⟨h1, h2, h3⟩ := over_ls hr ha.1 hx
      have e := ha.1.len_eq
      simp only [List.length_take, Array.length_toList] at e h2
      refine ⟨by show k + _ ≤ _; omega, ?_, oneA⟩
      rw [h1]
      exact h3
    · cases h
  · cases h
    obtain ⟨rfl, _⟩ := ha
    obtain ⟨rfl, _⟩ := hx
    have hs : ys.size = cur.size := hq _ (List.mem_singleton.2 rfl)
    refine ⟨by simp [SN.den, hs], ?_⟩
    have e : overA cur (SN.l 0).den ys.toList = ys := overA_all hs
    rw [e] at oneA ⊢
    exact ⟨rfl, oneA⟩
  · split at h
    · rename_i vs hvs
      cases h
      obtain ⟨rfl, _⟩ := ha
      have e := plains_ok hvs hx
      have hs := hq _ (List.mem_singleton.2 rfl)
      refine ⟨?_, ?_, oneA⟩
      · have : ys.size = vs.length := by rw [← e]; simp
        simp only [SN.den]; omega
      · rw [e]; rfl
    · cases h
  · split at h
    · rename_i v hv
      cases h
      obtain ⟨rfl, _⟩ := ha
      have e : ys.toList = [v] := one_list hv hx
      have hs : off.den < cur.size := hq _ (List.mem_singleton.2 rfl)
      have hy : ys.size = 1 := by rw [← Array.length_toList, e]; rfl
      refine ⟨by omega, ?_, oneA⟩
      rw [e, overA_set hs]
    · cases h
  · split at h
    · rename_i vs hvs
      cases h
      obtain ⟨rfl, _⟩ := ha
      have e := plains_ok hvs hx
      have hs := hq _ (List.mem_singleton.2 rfl)
      refine ⟨?_, ?_, oneA⟩
      · have : ys.size = vs.length := by rw [← e]; simp
        omega
      · rw [e]; rfl
    · split at h
      · rename_i vs j x hvs
        cases h
        obtain ⟨rfl, _⟩ := ha
        obtain ⟨v, e1, e2, e3⟩ := oneS_ok hvs hx
        have hs := hq _ (List.mem_singleton.2 rfl)
        have hy : ys.size = vs.length := by rw [← Array.length_toList, e3]; simp
        refine ⟨by omega, ⟨⟨v, e1, ?_⟩, oneA⟩⟩
        rw [e3]
        exact over_patch hs e2
      · cases h
  · cases h
    obtain ⟨rfl, _⟩ := ha
    obtain ⟨rfl, _⟩ := hx
    exact ⟨hq _ (List.mem_singleton.2 rfl), rfl, oneA⟩
  · rename_i ds y
    split at h
    · rename_i v hv
      cases h
      have e : ys.toList = [v] := one_list hv hx
      have hs : off.den < ds.size := hq _ (List.mem_singleton.2 rfl)
      have hy : ys.size = 1 := by rw [← Array.length_toList, e]; rfl
      have hsz := pop_size ha
      refine ⟨by omega, ?_, oneA⟩
      rw [e, overA_set (by omega)]
      simp only [Array.toList_setIfInBounds, Array.size_setIfInBounds, List.take_set]
      rw [ha.1]
    · cases h
  · split at h
    · rename_i vs v hvs hv
      cases h
      have e0 := plains_ok hvs ha
      have e : ys.toList = [v] := one_list hv hx
      have hs : off.den < vs.length := hq _ (List.mem_singleton.2 rfl)
      have hc : cur.size = vs.length := by rw [← e0]; simp
      have hy : ys.size = 1 := by rw [← Array.length_toList, e]; rfl
      refine ⟨by omega, ?_, oneA⟩
      have e1 : cur = vs.toArray := by rw [← e0]
      rw [e, overA_set (by omega), e1]
    · cases h
  · cases h
    obtain ⟨rfl, _⟩ := hx
    have hs : ys.size = len _ := hq _ (List.mem_singleton.2 rfl)
    have hl := All2.len_eq ha
    simp only [Array.length_toList] at hl
    rw [len_eq, hl] at hs
    refine ⟨by simp [SN.den, hs], ?_⟩
    have e : overA cur (SN.l 0).den ys.toList = ys := overA_all hs
    rw [e] at oneA ⊢
    exact ⟨rfl, oneA⟩
  · rename_i ds y
    cases h
    obtain ⟨rfl, _⟩ := hx
    have hs : off.den + ys.size ≤ ds.size := hq _ (List.mem_singleton.2 rfl)
    have hsz := pop_size ha
    exact ⟨by omega, pop_over ha.1 hsz (by rw [Array.length_toList]; exact hs), oneA⟩
  · rename_i ds y _
    split at h
    · rename_i vs hvs
      cases h
      have e := plains_ok hvs hx
      have hs : off.den + vs.length ≤ ds.size := hq _ (List.mem_singleton.2 rfl)
      have hsz := pop_size ha
      have hy : ys.size = vs.length := by rw [← e]; simp
      refine ⟨by omega, ?_, oneA⟩
      rw [e]
      exact pop_over ha.1 hsz hs
    · cases h
  · cases h
    obtain ⟨rfl, _⟩ := ha
    obtain ⟨⟨v, e1, e2⟩, e3⟩ := hx
    have hs := hq _ (List.mem_singleton.2 rfl)
    have hs' : ys.size = cur.size := by rw [e2]; simpa using hs
    refine ⟨by simp [SN.den, hs'], ?_⟩
    have e : overA cur (SN.l 0).den ys.toList = ys := overA_all hs'
    rw [e] at oneA ⊢
    exact ⟨⟨v, e1, e2⟩, oneA⟩
  · cases h
    obtain ⟨⟨v, e1, e2⟩, e3⟩ := ha
    obtain ⟨rfl, _⟩ := hx
    have hs := hq _ (List.mem_singleton.2 rfl)
    have hs' : ys.size = cur.size := by rw [e2]; simpa using hs
    refine ⟨by simp [SN.den, hs'], ?_⟩
    have e : overA cur (SN.l 0).den ys.toList = ys := overA_all hs'
    rw [e] at oneA ⊢
    exact ⟨rfl, oneA⟩
  · cases h
    obtain ⟨⟨v0, _, e0⟩, _⟩ := ha
    obtain ⟨⟨v, e1, e2⟩, e3⟩ := hx
    have hs := hq _ (List.mem_singleton.2 rfl)
    have hs' : ys.size = cur.size := by rw [e2, e0]; simpa using hs
    refine ⟨by simp [SN.den, hs'], ?_⟩
    have e : overA cur (SN.l 0).den ys.toList = ys := overA_all hs'
    rw [e] at oneA ⊢
    exact ⟨⟨v, e1, e2⟩, oneA⟩
  · cases h
    obtain ⟨⟨v, e1, e2⟩, e3⟩ := hx
    have hs := hq _ (List.mem_singleton.2 rfl)
    have hl := All2.len_eq ha
    simp only [Array.length_toList] at hl
    rw [len_eq, hl] at hs
    have hs' : ys.size = cur.size := by rw [e2]; simpa using hs
    refine ⟨by simp [SN.den, hs'], ?_⟩
    have e : overA cur (SN.l 0).den ys.toList = ys := overA_all hs'
    rw [e] at oneA ⊢
    exact ⟨⟨v, e1, e2⟩, oneA⟩
  · cases h
theorem putW_eq {l y : List SC} {k : Nat} {r : SA} {q : List Prop} (h : (match wholeL l k (len y) with | true => some ([], SA.ls y) | false => putS0 (.ls l) (.l k) (.ls y)) = some (q, r)) : putS0 (.ls l) (.l k) (.ls y) = some (q, r) := by
  split at h
  · rename_i hw
    cases h
    unfold wholeL at hw
    split at hw
    · have hw := Nat.eq_of_beq_eq_true hw
      have hs : splice l 0 y = some y := by
        unfold splice
        have hb : Nat.ble (0 + len y) (len l) = true := by rw [hw, Nat.zero_add]; exact Nat.ble_eq_true_of_le (Nat.le_refl _)
        rw [hb]
        dsimp only
        rw [len_eq, len_eq] at hw
        rw [spliceL_eq y l 0 (by omega), Nat.zero_add, ← hw]
        simp
      unfold putS0
      dsimp only
      rw [hs]
    · cases hw
  · exact h
theorem mixL_at (kd : IntKind) (lo k : Nat) (v : Int) : ∀ (l : List SC) (j i : Nat), (mixL kd lo k v j l)[i]? = (l[i]?).map fun c => match Nat.ble lo (j + i), c with
    | true, .f (.int _ n) => .f (.int kd (.o (selI k (j + i) v n.den)))
    | _, c => c
  | [], _, i => by simp [mixL]
  | c :: l, j, 0 => by
    simp only [mixL, List.getElem?_cons_zero, Option.map_some, Nat.add_zero]
    rfl
  | c :: l, j, i + 1 => by
    simp only [mixL, List.getElem?_cons_succ]
    rw [mixL_at kd lo k v l (j + 1) i, show j + 1 + i = j + (i + 1) by omega]
theorem All2.of_at {α β : Type} {r : α → β → Prop} : ∀ {l : List α} {m : List β}, l.length = m.length → (∀ (i : Nat) (a : α) (b : β), l[i]? = some a → m[i]? = some b → r a b) → All2 r l m
  | [], [], _, _ => trivial
  | a :: l, b :: m, h, hr => ⟨hr 0 a b rfl rfl, All2.of_at (by simpa using h) fun i x y hx hy => hr (i + 1) x y (by rw [List.getElem?_cons_succ]; exact hx) (by rw [List.getElem?_cons_succ]; exact hy)⟩
  | [], _ :: _, h, _ => by simp at h
  | _ :: _, [], h, _ => by simp at h
theorem mixL_len (kd : IntKind) (lo k : Nat) (v : Int) : ∀ (l : List SC) (j : Nat), (mixL kd lo k v j l).length = l.length
  | [], _ => rfl
  | _ :: l, j => by simp only [mixL, List.length_cons, mixL_len kd lo k v l (j + 1)]
theorem mix_ok {l : List SC} {k : Nat} {kd : IntKind} {v : Int} {cur : Array Value} (h1 : (sufV kd l).1 ≤ k) (h2 : k < l.length) (ha : All2 (SC.ok R) l cur.toList) :
    All2 (SC.ok R) (mixL kd (sufV kd l).1 k v 0 l) (overA cur k [.int kd v]).toList := by
  have hlen : l.length = cur.size := by rw [ha.len_eq, Array.length_toList]
  rw [overA_set (by omega)]
  refine All2.of_at ?_ fun i a b hx hy => ?_
  · rw [mixL_len, hlen]; simp
  · rw [mixL_at, Nat.zero_add] at hx
    rw [Array.getElem?_toList, Array.getElem?_setIfInBounds] at hy
    obtain ⟨c, hc, rfl⟩ := Option.map_eq_some_iff.1 hx
    obtain ⟨u, hu, hok⟩ := ha.at hc
    rw [Array.getElem?_toList] at hu
    have hi : i < l.length := (List.getElem?_eq_some_iff.1 hc).1
    by_cases hlo : (sufV kd l).1 ≤ i
    · obtain ⟨n, e1, _⟩ := sufV_at kd hlo hi
      rw [hc] at e1
      cases e1
      rw [Nat.ble_eq_true_of_le hlo]
      dsimp only
      have hok : u = .int kd n.den := hok
      show b = .int kd (selI k i v n.den)
      unfold selI
      by_cases e : k = i
      · rw [if_pos e, if_pos (by omega)] at hy
        rw [if_pos e]
        cases hy; rfl
      · rw [if_neg e, hu] at hy
        rw [if_neg e]
        cases hy; exact hok
    · have e : Nat.ble (sufV kd l).1 i = false := by
        cases h : Nat.ble (sufV kd l).1 i with
        | false => rfl
        | true => exact (hlo (Nat.le_of_ble_eq_true h)).elim
      rw [e]
      dsimp only
      rw [if_neg (by omega), hu] at hy
      cases hy
      exact hok
theorem putS_ok {a x r : SA} {off : SN} {q : List Prop} {cur ys : Array Value} (h : putS a off x = some (q, r)) (hq : ∀ p ∈ q, p) (ha : a.okM R cur) (hx : x.ok R ys) :
    off.den + ys.size ≤ cur.size ∧ r.ok R (overA cur off.den ys.toList) := by
  unfold putS at h
  split at h
  · exact putS0_ok (putW_eq h) hq ha hx
  · rename_i l k kd n
    split at h
    · exact putS0_ok h hq ha hx
    · rw [forceN_eq, forceL_eq] at h
      cases h
      obtain ⟨h1, h2⟩ := hq _ (List.mem_singleton.2 rfl)
      rw [sufV_len] at h2
      have ha : All2 (SC.ok R) l cur.toList := ha
      have hlen : l.length = cur.size := by rw [ha.len_eq, Array.length_toList]
      have hx : All2 (SC.ok R) [.f (.int kd n)] ys.toList := hx
      have hy : ys.toList = [.int kd n.den] := by
        match ys.toList, hx with
        | [u], hx => have : u = .int kd n.den := hx.1; rw [this]
      have hs : ys.size = 1 := by rw [← Array.length_toList, hy]; rfl
      rw [hy]
      exact ⟨by show k + _ ≤ _; omega, mix_ok h1 h2 ha⟩
  · exact putS0_ok h hq ha hx
end
end Go.Proofs.YtjjeahnbppmigaaDoor
