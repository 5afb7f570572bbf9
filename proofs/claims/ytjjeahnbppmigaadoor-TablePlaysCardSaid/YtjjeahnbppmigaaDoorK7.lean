/- Each operation of the symbolic machine, memory and all. No condition. -/
import Derived.Test.YtjjeahnbppmigaaDoorK6
import Derived.Great.BuildSlice
set_option linter.unusedVariables false
set_option linter.unusedSimpArgs false
namespace Go.Proofs.YtjjeahnbppmigaaDoor
set_option linter.unusedSectionVars false
variable [Gh]

section
variable {P : Program} {n0 : Nat} {F : Nat → Prop} {w0 w : World} {R : Ren} {m : SMem}
def Does (n0 : Nat) (F : Nat → Prop) (w0 : World) (w : World) (m : SMem) (R : Ren) (m' : SMem) (s : SV) (r : World → Value → Prop) : Prop :=
  ∃ R' w' v, ExtN w w' m.next m'.next R R' ∧ Rel n0 F w0 R' m' w' ∧ s.ok R' v ∧ r w' v

omit [Gh] in
omit n0 F w0 w R m in
theorem lookG_mem : ∀ {l : List (Nat × List Value)} {g : Nat} {cs : List Value}, lookG l g = some cs → (g, cs) ∈ l
  | [], _, _, h => by cases h
  | (k, c) :: l, g, cs, h => by
    simp only [lookG] at h
    split at h
    · rename_i e
      have e' : k = g := by simpa using e
      cases h
      subst e'
      exact List.mem_cons_self ..
    · exact List.mem_cons_of_mem _ (lookG_mem h)
omit [Gh] in
omit n0 F w0 w R m in
theorem PartIs.longer {P : Program} {t : TypeId} {cs : List Value} {cs' : Array Value} {k : Nat} {v : Value} (h : PartIs P t cs.toArray k v) (hc : ∀ i : Nat, i < cs.length → cs'[i]? = cs[i]?) : PartIs P t cs' k v := by
  obtain ⟨d, i, h1, h2, h3⟩ := h
  refine ⟨d, i, h1, h2, ?_⟩
  rcases h3 with ⟨h3, h4, rfl⟩ | ⟨h3, h4⟩
  · have h4 : k + i.size ≤ cs.length := by simpa using h4
    have hsz : cs.length ≤ cs'.size := by
      rcases Nat.lt_or_ge cs'.size cs.length with h | h
      · have := hc _ h
        rw [Array.getElem?_eq_none (Nat.le_refl _), List.getElem?_eq_getElem h] at this
        cases this
      · exact h
    refine .inl ⟨h3, by omega, ?_⟩
    congr 1
    apply Array.ext_getElem?
    intro j
    rw [Array.getElem?_extract, Array.getElem?_extract]
    by_cases hj : j < i.size
    · rw [if_pos (by simp; omega), if_pos (by omega), hc _ (by omega), List.getElem?_toArray]
    · rw [if_neg (by simp; omega), if_neg (by omega)]
  · refine .inr ⟨h3, ?_⟩
    rw [List.getElem?_toArray] at h4
    rw [hc _ (List.getElem?_eq_some_iff.1 h4).1]
    exact h4
theorem loadS_ok {t : TypeId} {x s : SV} {q : List Prop} {m' : SMem} {u : Value} (h : loadS P t x m = .ok q s m') (hq : ∀ p ∈ q, p) (hx : x.ok R u) (hR : Rel n0 F w0 R m w) :
    m' = m ∧ ∃ v, s.ok R v ∧ (Instr.loadAt t u).run P w = .ok v w ∧ ∃ g k, u = .pointer (some ⟨g, k, none⟩) ∧ (loadVar t ⟨g, k, none⟩).run P w = .ok v w := by
  unfold loadS at h
  split at h
  · rename_i id off
    split at h
    · rename_i b hb
      rw [atO_eq] at h
      unfold XR.of at h
      split at h
      · rename_i q' v' hp
        cases h
        simp only [Option.map_eq_some_iff, Prod.mk.injEq] at hp
        obtain ⟨⟨q', s'⟩, h1, rfl, rfl⟩ := hp
        obtain ⟨g, hg, rfl⟩ := hx
        obtain ⟨g', cs, fz, k1, k2, _, k3, _⟩ := hR.blk id b hb
        obtain rfl : g' = g := by rw [k1] at hg; exact Option.some.inj hg
        obtain ⟨v, hv, hs⟩ := partL_ok h1 hq k3
        rw [offT_den] at hv
        have hl := run_loadVar k2 hv
        exact ⟨rfl, v, hs, by simp [Instr.loadAt, Instr.sureAddr, hl], _, _, rfl, hl⟩
      · cases h
    · cases h
  · rename_i g off
    split at h
    · rename_i cs hl
      split at h
      · rename_i a ha
        unfold XR.of at h
        split at h
        · rename_i q' v' hp
          cases h
          simp only [Option.map_eq_some_iff, Prod.mk.injEq] at hp
          obtain ⟨⟨q', s'⟩, h1, rfl, rfl⟩ := hp
          obtain rfl : u = _ := hx
          obtain ⟨g1, g2, cs', ty, fz, g3, g4⟩ := hR.gl g cs (.inl (lookG_mem hl))
          have k2 : w.heap[g]? = some (.cells cs' ty fz) := (hR.fr.block g g1 g2).trans g3
          obtain ⟨v, hv, hs⟩ := partS_ok h1 hq (SA.okM_of (ofVals_ok R ha))
          have hl := run_loadVar k2 (hv.longer g4.2)
          exact ⟨rfl, v, hs, by simp [Instr.loadAt, Instr.sureAddr, hl], _, _, rfl, hl⟩
        · cases h
      · cases h
    · cases h
  · cases h
theorem storeS_ok {t : TypeId} {x y s : SV} {q : List Prop} {m' : SMem} {u v : Value} (h : storeS P t x y m = .ok q s m') (hq : ∀ p ∈ q, p) (hx : x.ok R u) (hy : y.ok R v) (hR : Rel n0 F w0 R m w) :
    s = .tup [] ∧ m'.next = m.next ∧ ∃ w', Rel n0 F w0 R m' w' ∧ (Instr.storeAt t u v).run P w = .ok () w' ∧ w.heap.size ≤ w'.heap.size := by
  unfold storeS at h
  split at h
  · rename_i id off a hc
    split at h
    · rename_i b q1 hb hf
      split at h
      · rename_i q2 r hw hp
        rw [atO_eq] at hp
        cases h
        obtain ⟨g, hg, rfl⟩ := hx
        have ha := cells_ok hc hy
        obtain ⟨i, hi, hsz⟩ := fits_ok hf (fun p hp => hq p (List.mem_append_left _ hp)) ha
        obtain ⟨g', cs, fz, k1, k2, hz, _, k3, k4⟩ := hR.set hb hw
        obtain rfl : g' = g := by rw [k1] at hg; exact Option.some.inj hg
        obtain ⟨hk, hr⟩ := putS_ok hp (fun p hp => hq p (List.mem_append_right _ hp)) k3 ha
        rw [offT_den] at hk hr
        have hst := run_storeVar (P := P) (t := t) (v := v) k2 hz hi hsz hk (SA.one ha)
        exact ⟨rfl, rfl, _, k4 _ _ hr (overA_size (by simpa using hk)), by simp [Instr.storeAt, Instr.sureAddr, hst], by simp⟩
      · cases h
    · cases h
  · cases h
theorem newS_ok {t : TypeId} {a : Option SA} {s : SV} {q : List Prop} {m' : SMem} (h : newS t a m = .ok q s m') {cs : Array Value} (ha : ∀ a', a = some a' → a'.ok R cs) (hR : Rel n0 F w0 R m w) :
    Does n0 F w0 w m R m' s fun w' v => (newRow t cs).run P w = .ok ⟨w.heap.size, 0, none⟩ w' ∧ v = .pointer (some ⟨w.heap.size, 0, none⟩) := by
  unfold newS at h
  split at h
  · rename_i a'
    cases h
    obtain ⟨R', hx, h1, h2⟩ := hR.new (ha _ rfl) t
    exact ⟨R', _, _, hx, h2, ⟨_, h1, rfl⟩, by simp [newRow, newObj, Sem.run], rfl⟩
  · cases h
omit [Gh] in
theorem zeroS_ok {t : TypeId} {a : SA} (h : zeroS P t = some a) : ∃ i z, P.info? t = some i ∧ i.zero = some z ∧ a.ok R z.cells := by
  unfold zeroS at h
  split at h
  · rename_i i hi
    split at h
    · rename_i z hz
      split at h
      · split at h
        · rename_i ho
          cases h
          have e : bigZ P t = z.cells := by unfold bigZ; rw [hi]; dsimp only; rw [hz]
          exact ⟨i, z, hi, hz, by rw [e]; exact ⟨rfl, allOne_mem ho⟩⟩
        · cases h
      · exact ⟨i, z, hi, hz, by simpa using ofVals_ok R h⟩
    · cases h
  · cases h

omit [Gh] in
theorem foldl_set : ∀ (ys : List Value) (off : Nat) (j : Nat) (cs : Array Value), off + j + ys.length ≤ cs.size →
    ((ys.zipIdx j).foldl (fun cs (p : Value × Nat) => cs.setIfInBounds (off + p.2) p.1) cs).toList = cs.toList.take (off + j) ++ ys ++ cs.toList.drop (off + j + ys.length)
  | [], off, j, cs, _ => by simp
  | y :: ys, off, j, cs, h => by
    simp only [List.length_cons] at h
    simp only [List.zipIdx_cons, List.foldl_cons]
    rw [foldl_set ys off (j + 1) _ (by simp; omega)]
    simp only [Array.toList_setIfInBounds]
    rw [List.set_eq_take_append_cons_drop, if_pos (by simp; omega)]
    have e1 : (cs.toList.take (off + j) ++ y :: cs.toList.drop (off + j + 1)).take (off + (j + 1)) = cs.toList.take (off + j) ++ [y] := by
      rw [List.take_append]
      have : (cs.toList.take (off + j)).length = off + j := by simp; omega
      rw [this, List.take_of_length_le (by omega)]
      have e : off + (j + 1) - (off + j) = 1 := by omega
      rw [e]; rfl
    have e2 : (cs.toList.take (off + j) ++ y :: cs.toList.drop (off + j + 1)).drop (off + (j + 1) + ys.length) = cs.toList.drop (off + j + (ys.length + 1)) := by
      rw [List.drop_append]
      have : (cs.toList.take (off + j)).length = off + j := by simp; omega
      rw [this, List.drop_of_length_le (by omega)]
      have e : off + (j + 1) + ys.length - (off + j) = ys.length + 1 := by omega
      rw [e]
      simp only [List.nil_append, List.drop_succ_cons, List.drop_drop]
      congr 1
      omega
    rw [e1, e2]
    simp

omit [Gh] in
theorem buildS_ok {t : TypeId} {T : Tm} {a : Act} (hT : TmOk R T a) {place : Nat → Option (Nat × Nat)} (hp : ∀ i off n, placesS P t i = some (off, n) → place i = some (off, n)) :
    ∀ {ps : List (Nat × Operand)} {l r : List SC} {cs : Array Value}, buildS P t T ps l = some r → All2 (SC.ok R) l cs.toList →
      ∃ cs', Instr.fill place cs (ps.map fun p => (p.1, a.eval p.2)) = some cs' ∧ All2 (SC.ok R) r cs'.toList
  | [], l, r, cs, h, hl => by
    simp only [buildS, Option.some.injEq] at h
    subst h
    exact ⟨cs, rfl, hl⟩
  | (i, x) :: ps, l, r, cs, h, hl => by
    simp only [buildS] at h
    split at h
    · rename_i off n v hpl hv
      split at h
      · rename_i y hy
        split at h
        · rename_i hn
          split at h
          · rename_i l' hl'
            have hvo := cells_ok hy (ev_ok hT hv)
            have e1 := All2.len_eq hvo
            have e2 := hl.len_eq
            simp only [Array.length_toList] at e1 e2
            rw [len_eq] at hn
            obtain ⟨_, h2, h3⟩ := over_ls (cur := cs.toList) (ys := (a.eval x).cells.toList) hl' (by rw [List.take_of_length_le (by rw [Array.length_toList]; omega)]; exact hl) hvo
            simp only [Array.length_toList] at h2
            have hfold := foldl_set (a.eval x).cells.toList off 0 cs (by simp; omega)
            simp only [Nat.add_zero] at hfold
            obtain ⟨cs', h4, h5⟩ := buildS_ok hT hp (cs := (((a.eval x).cells.toList.zipIdx 0).foldl (fun cs (p : Value × Nat) => cs.setIfInBounds (off + p.2) p.1) cs)) h (by
              rw [hfold]
              rw [List.take_of_length_le (by simp; omega)] at h3
              exact h3)
            refine ⟨cs', ?_, h5⟩
            simp only [List.map_cons, Instr.fill, hp _ _ _ hpl]
            rw [if_neg (by simp; omega)]
            rw [← h4]
            congr 1
            rw [← Array.foldl_toList]
            simp
          · cases h
        · cases h
      · cases h
    · cases h

omit [Gh] in
theorem built_any {t : TypeId} {ps : List (Nat × Value)} {l : List SC} {A : Array Value → Prop} (hz : zeroS P t = some (.ls l)) (hw : wellS P t = true)
    (H : ∀ place : Nat → Option (Nat × Nat), (∀ i off n, placesS P t i = some (off, n) → place i = some (off, n)) → ∀ cs : Array Value, All2 (SC.ok R) l cs.toList → ∃ cs', Instr.fill place cs ps = some cs' ∧ A cs') : ∃ cs, P.built t ps = some cs ∧ A cs := by
  obtain ⟨it, z, hi, hzz, hzo⟩ := zeroS_ok (R := R) hz
  unfold wellS at hw
  split at hw
  · rename_i fs hu
    have sz : ∀ (fl : List Field), sized P fl = true → ∃ pl, fl.mapM (fun f => (P.info? f.type).map fun i => (f.offset, i.size)) = some pl ∧ ∀ i off n, (match nth fl i with | some f => (sizeS P f.type).map fun n => (f.offset, n) | none => none) = some (off, n) → pl[i]? = some (off, n) := by
      intro fl
      induction fl with
      | nil => intro _; exact ⟨[], rfl, fun i off n h => by simp [nth_nil] at h⟩
      | cons f fl ih =>
        intro hs
        simp only [sized, Bool.and_eq_true] at hs
        obtain ⟨pl, h1, h2⟩ := ih hs.2
        obtain ⟨s, hs1⟩ := Option.isSome_iff_exists.1 hs.1
        obtain ⟨_, j, hj, hjs⟩ := sizeS_ok (w := default) hs1
        refine ⟨(f.offset, j.size) :: pl, by simp [List.mapM_cons, hj, h1], ?_⟩
        intro i off n h
        cases i with
        | zero =>
          simp only [nth_zero, hs1, Option.map_some, Option.some.injEq, Prod.mk.injEq] at h
          simp [h.1, hjs, h.2]
        | succ i => simpa using h2 i off n h
    obtain ⟨pl, h1, h2⟩ := sz fs.toList hw
    obtain ⟨cs, h3, h4⟩ := H (pl.toArray[·]?) (fun i off n h => by
      unfold placesS at h
      simp only [hu] at h
      simpa using h2 i off n h) _ hzo
    exact ⟨cs, by simp only [Program.built, hi, hu, hzz, h1]; exact h3, h4⟩
  · rename_i k e hu
    obtain ⟨s, hs1⟩ := Option.isSome_iff_exists.1 hw
    obtain ⟨_, j, hj, hjs⟩ := sizeS_ok (w := default) hs1
    obtain ⟨cs, h3, h4⟩ := H (fun i => some (i * j.size, j.size)) (fun i off n h => by
      unfold placesS at h
      simp only [hu, hs1, Option.map_some, Option.some.injEq, Prod.mk.injEq] at h
      rw [hjs, ← h.1, ← h.2]) _ hzo
    exact ⟨cs, by simp only [Program.built, hi, hu, hzz, hj]; exact h3, h4⟩
  · cases hw
omit [Gh] in
theorem built_ok {t : TypeId} {T : Tm} {a : Act} {ps : List (Nat × Operand)} {l r : List SC} (hT : TmOk R T a) (hz : zeroS P t = some (.ls l)) (hw : wellS P t = true) (h : buildS P t T ps l = some r) :
    ∃ cs, P.built t (ps.map fun p => (p.1, a.eval p.2)) = some cs ∧ All2 (SC.ok R) r cs.toList :=
  built_any hz hw fun _ hp _ hl => buildS_ok hT hp h hl
omit [Gh] in
theorem built1_ok {t : TypeId} {T : Tm} {a : Act} {ps : List (Nat × Operand)} {l : List SC} {q : List Prop} {s : SV} (hT : TmOk R T a) (hz : zeroS P t = some (.ls l)) (hw : wellS P t = true) (h : build1S P t T ps l = some (q, s)) (hq : ∀ p ∈ q, p) :
    ∃ cs, P.built t (ps.map fun p => (p.1, a.eval p.2)) = some cs ∧ s.ok R (.agg cs) := by
  refine built_any (R := R) hz hw fun place hp cs hl => ?_
  unfold build1S at h
  split at h
  rotate_left
  · cases h
  rename_i i x
  split at h
  rotate_left
  · cases h
  rename_i off n v vs hpl hv hvs
  split at h
  rotate_left
  · cases h
  rename_i y hy
  simp only [Option.some.injEq, Prod.mk.injEq] at h
  obtain ⟨rfl, rfl⟩ := h
  obtain ⟨e1, m1⟩ : SA.ok R (.op y) _ := cells_ok hy (ev_ok hT hv)
  have e2 : cs.toList = vs := plains_ok hvs hl
  have q1 : y.size = n := hq _ (List.mem_cons_self ..)
  have q2 : off + n ≤ vs.length := hq _ (List.mem_cons_of_mem _ (List.mem_cons_self ..))
  have ln : cs.size = vs.length := by rw [← e2, Array.length_toList]
  have hfold := foldl_set (a.eval x).cells.toList off 0 cs (by rw [e1, Array.length_toList]; omega)
  simp only [Nat.add_zero] at hfold
  refine ⟨((a.eval x).cells.toList.zipIdx 0).foldl (fun cs (p : Value × Nat) => cs.setIfInBounds (off + p.2) p.1) cs, ?_, _, rfl, ?_, ?_⟩
  · simp only [List.map_cons, List.map_nil, Instr.fill, hp _ _ _ hpl]
    rw [if_neg (by rw [e1]; simp [q1]; omega)]
    congr 1
    rw [← Array.foldl_toList]
    simp
  · apply Array.toList_inj.1
    rw [hfold, e1, e2]
    unfold putAt
    rfl
  · intro u hu
    rw [hfold] at hu
    rcases List.mem_append.1 hu with hu | hu
    · rcases List.mem_append.1 hu with hu | hu
      · exact All2.all (r := SC.ok R) (fun _ _ => SC.one) hl u (List.mem_of_mem_take hu)
      · exact m1 u hu
    · exact All2.all (r := SC.ok R) (fun _ _ => SC.one) hl u (List.mem_of_mem_drop hu)

omit [Gh] in
theorem buildRowS_ok {sz : Nat} {T : Tm} {a : Act} (hT : TmOk R T a) :
    ∀ {ps : List (Nat × Operand)} {l r : List SC} {cs : Array Value}, buildRowS sz T ps l = some r → All2 (SC.ok R) l cs.toList →
      ∃ cs', Instr.fill (fun i => some (i * sz, sz)) cs (ps.map fun p => (p.1, a.eval p.2)) = some cs' ∧ All2 (SC.ok R) r cs'.toList := by
  intro ps
  induction ps with
  | nil =>
    intro l r cs h hl
    simp only [buildRowS, Option.some.injEq] at h
    subst h
    exact ⟨cs, rfl, hl⟩
  | cons p ps ih =>
    obtain ⟨i, x⟩ := p
    intro l r cs h hl
    simp only [buildRowS] at h
    split at h
    · rename_i v hv
      split at h
      · rename_i y hy
        split at h
        · rename_i hn
          split at h
          · rename_i l' hl'
            have hvo := cells_ok hy (ev_ok hT hv)
            have e1 := All2.len_eq hvo
            have e2 := hl.len_eq
            simp only [Array.length_toList] at e1 e2
            rw [len_eq] at hn
            obtain ⟨_, h2, h3⟩ := over_ls (cur := cs.toList) (ys := (a.eval x).cells.toList) hl' (by rw [List.take_of_length_le (by rw [Array.length_toList]; omega)]; exact hl) hvo
            simp only [Array.length_toList] at h2
            have hfold := foldl_set (a.eval x).cells.toList (i * sz) 0 cs (by simp; omega)
            simp only [Nat.add_zero] at hfold
            obtain ⟨cs', h4, h5⟩ := ih (cs := (((a.eval x).cells.toList.zipIdx 0).foldl (fun cs (p : Value × Nat) => cs.setIfInBounds (i * sz + p.2) p.1) cs)) h (by
              rw [hfold]
              rw [List.take_of_length_le (by simp; omega)] at h3
              exact h3)
            refine ⟨cs', ?_, h5⟩
            simp only [List.map_cons, Instr.fill]
            rw [if_neg (by simp; omega)]
            rw [← h4]
            congr 1
            rw [← Array.foldl_toList]
            simp
          · cases h
        · cases h
      · cases h
    · cases h
omit [Gh] in
theorem repN_ok {r : SC → Value → Prop} {z : List SC} {zs : Array Value} (h : All2 r z zs.toList) (hz : 0 < zs.size) : ∀ n, All2 r (repN n z) ((Array.range (n * zs.size)).map (zs[· % zs.size]!)).toList
  | 0 => by simp [repN, All2]
  | n + 1 => by
    have e : ((Array.range ((n + 1) * zs.size)).map (zs[· % zs.size]!)).toList = zs.toList ++ ((Array.range (n * zs.size)).map (zs[· % zs.size]!)).toList := by
      apply List.ext_getElem?
      intro j
      rw [List.getElem?_append]
      simp only [Array.getElem?_toList, Array.getElem?_map, Array.getElem?_range, Array.length_toList]
      by_cases hj : j < zs.size
      · have : j < (n + 1) * zs.size := by rw [Nat.add_mul]; omega
        rw [if_pos this, if_pos hj]
        simp only [Option.map_some, Nat.mod_eq_of_lt hj]
        rw [getElem!_pos zs j hj, Array.getElem?_eq_getElem hj]
      · rw [if_neg hj]
        by_cases hk : j < (n + 1) * zs.size
        · have : j - zs.size < n * zs.size := by rw [Nat.add_mul] at hk; omega
          rw [if_pos hk, if_pos this]
          have e2 : j % zs.size = (j - zs.size) % zs.size := by rw [← Nat.mod_eq_sub_mod (by omega)]
          simp only [Option.map_some, e2]
        · have : ¬ j - zs.size < n * zs.size := by rw [Nat.add_mul] at hk; omega
          rw [if_neg hk, if_neg this]
    rw [e]
    exact h.append (repN_ok h hz n)
theorem buildSliceS_ok {t : TypeId} {n : Nat} {T : Tm} {a : Act} {ps : Array (Nat × Operand)} {q : List Prop} {s : SV} {m' : SMem} (h : buildSliceS P t n T ps.toList m = .ok q s m') (hT : TmOk R T a) (hR : Rel n0 F w0 R m w) :
    Does n0 F w0 w m R m' s fun w' v => (Instr.buildSlice t n (ps.map fun p => (p.1, a.eval p.2))).run P w = .ok v w' := by
  unfold buildSliceS at h
  split at h
  · rename_i e hu
    split at h
    · rename_i hps
      split at h
      · rename_i sz hs
        cases h
        obtain ⟨_, j, hj, hjs⟩ := sizeS_ok (w := w) hs
        obtain ⟨R', k1, k2, k3⟩ := hR.new (a := .ls []) (cs := #[]) trivial e
        obtain ⟨rfl, hp0⟩ := hps
        rw [len_eq] at hp0
        obtain rfl : ps = #[] := by simpa using hp0
        refine ⟨R', _, _, k1, k3, ⟨_, 0, k2, rfl, rfl, Nat.le_refl _⟩, ?_⟩
        have e0 : ∀ f : Nat → Value, Array.map f (Array.range 0) = #[] := fun f => by simp [Array.range]
        simp [Instr.buildSlice, run_underlying hu, sizeOf, typeInfo, hj, newRow, Instr.fill]
        rw [e0]
      · cases h
    split at h
    · rename_i z sz hz hs
      split at h
      · rename_i hc
        split at h
        · rename_i r hr
          cases h
          obtain ⟨ie, zv, hi, hzz, hzo⟩ := zeroS_ok (R := R) hz
          obtain ⟨_, j, hj, hjs⟩ := sizeS_ok (w := w) hs
          rw [hi] at hj
          cases hj
          have hzl := All2.len_eq hzo
          simp only [Array.length_toList] at hzl
          rw [len_eq] at hc
          have hzc : zv.cells.size = sz + 1 := by omega
          have hjs' : ie.size = sz + 1 := hjs
          obtain ⟨cs, h1, h2⟩ := buildRowS_ok hT (cs := (Array.range (n * zv.cells.size)).map (zv.cells[· % zv.cells.size]!)) hr (repN_ok hzo (by omega) n)
          have hrun := run_buildSlice (P := P) w t e n (ps.map fun p => (p.1, a.eval p.2)) cs ie zv hu hi hzz (by rw [hjs']; omega) (by rw [hjs']; have := Nat.mul_pos hc.2.2 (show 0 < sz + 1 by omega); omega) (by
            rw [hjs', ← hzc]
            simpa [hzc] using h1)
          obtain ⟨R', k1, k2, k3⟩ := hR.new (a := .ls r) (cs := cs) h2 e
          exact ⟨R', _, _, k1, k3, ⟨_, n, k2, rfl, rfl, Nat.le_refl _⟩, hrun⟩
        · cases h
      · cases h
    · cases h
  · cases h

omit [Gh] in
theorem run_store_row {cur : Array Value} {g k : Nat} {ty : TypeId} {ys : List Value} {fz : Nat × Nat} (hg : w.heap[g]? = some (.cells cur ty fz)) (hz : FzOk fz cur.size) (hk : k + ys.length ≤ cur.size) (h1 : ∀ u ∈ ys, u.oneCell' = true) :
    (storeCells ⟨g, k, none⟩ ys).run P w = .ok () (w.setRow g (overA cur k ys)) := by
  have h := run_storeCells_Z (P := P) g k ty fz ys 0 cur w hg hz (by simpa using hk) h1
  simpa [overA] using h
omit [Gh] in
theorem extract_get {cs : Array Value} {k n : Nat} {g : Nat} {ty : TypeId} {fz : Nat × Nat} (hg : w.heap[g]? = some (.cells cs ty fz)) : ∀ j v, (cs.extract k (k + n)).toList[j]? = some v → w.cell? ((⟨g, k, none⟩ : Addr).add j) = some v := by
  intro j v hv
  rw [addr_add, cell_of_row w g (k + j) cs ty fz hg]
  rw [Array.getElem?_toList, Array.getElem?_extract] at hv
  split at hv
  · exact hv
  · cases hv
theorem xop_ok {T : Tm} {a : Act} {o : Oper} {q : List Prop} {s : SV} {m' : SMem} (h : xop P T m o.op = .ok q s m') (hq : ∀ p ∈ q, p) (hT : TmOk R T a) (hR : Rel n0 F w0 R m w) :
    Does n0 F w0 w m R m' s fun w' v => Ends P a o w w' v := by
  have pure1 : ∀ {s' : SV} {q' : List Prop} {v : Value}, XR.ok q' s' m = .ok q s m' → s'.ok R v → (execOp a.eval o).run P w = .ok (.value v) w → Does n0 F w0 w m R m' s fun w' v => Ends P a o w w' v := by
    intro s' q' v e hs hrun
    cases e
    exact ⟨R, w, v, ExtN.refl _ _ R, hR, hs, .inl hrun⟩
  have of1 : ∀ {r : Option (List Prop × SV)}, XR.of m r = .ok q s m' → r = some (q, s) ∧ m' = m := by
    intro r e
    unfold XR.of at e
    split at e
    · cases e; exact ⟨rfl, rfl⟩
    · cases e
  have one1 : ∀ {r : Option SV}, XR.one m r = .ok q s m' → r = some s ∧ q = [] ∧ m' = m := by
    intro r e
    unfold XR.one at e
    split at e
    · cases e; exact ⟨rfl, rfl, rfl⟩
    · cases e
  generalize ho : o.op = op at h
  unfold xop at h
  dsimp only [xop_a1, xop_a4, xop_a5, xop_a6, xop_a7, xop_a8, xop_a9, xop_a10, xop_a11, xop_a12, xop_a13, xop_a14, xop_a15, xop_a16, xop_a17, xop_a18, xop_a21, xop_a22] at h
  split at h
  case h_1 x =>
    obtain ⟨h1, rfl, rfl⟩ := one1 h
    exact ⟨R, w, _, ExtN.refl _ _ R, hR, ev_ok hT h1, .inl (by simp [execOp, ho])⟩
  case h_2 x =>
    obtain ⟨h1, rfl, rfl⟩ := one1 h
    exact ⟨R, w, _, ExtN.refl _ _ R, hR, ev_ok hT h1, .inl (by simp [execOp, ho])⟩
  case h_3 c x y =>
    split at h
    · rename_i hc
      obtain ⟨h1, rfl, rfl⟩ := one1 h
      have e : a.eval c = .bool true := ev_ok hT hc
      exact ⟨R, w, _, ExtN.refl _ _ R, hR, ev_ok hT h1, .inl (by simp [execOp, ho, e, asBool])⟩
    · rename_i hc
      obtain ⟨h1, rfl, rfl⟩ := one1 h
      have e : a.eval c = .bool false := ev_ok hT hc
      exact ⟨R, w, _, ExtN.refl _ _ R, hR, ev_ok hT h1, .inl (by simp [execOp, ho, e, asBool])⟩
    · cases h
  case h_4 t =>
    cases hz : zeroS P t with
    | none => rw [hz] at h; cases h
    | some z =>
      obtain ⟨i, zv, hi, hzz, hzo⟩ := zeroS_ok (R := R) hz
      rw [hz] at h
      obtain ⟨R', w', v, h1, h2, h3, h4, rfl⟩ := newS_ok (P := P) h (cs := zv.cells) (fun _ e => by cases e; exact hzo) hR
      exact ⟨R', w', _, h1, h2, h3, .inl (by simp [execOp, ho, Instr.alloc, zeroValue, typeInfo, hi, hzz, newVar, h4])⟩
  case h_5 t x =>
    cases hv : (ev T x).bind SV.cells with
    | none => rw [hv] at h; cases h
    | some z =>
      obtain ⟨y, hy, hz⟩ := Option.bind_eq_some_iff.1 hv
      rw [hv] at h
      obtain ⟨R', w', v, h1, h2, h3, h4, rfl⟩ := newS_ok (P := P) h (cs := (a.eval x).cells) (fun _ e => by cases e; exact cells_ok hz (ev_ok hT hy)) hR
      exact ⟨R', w', _, h1, h2, h3, .inl (by simp [execOp, ho, Instr.box, newVar, h4])⟩
  case h_6 t ps =>
    split at h
    · rename_i l hz hw
      split at h
      · rename_i r hr
        obtain ⟨cs, h1, h2⟩ := built_ok hT hz hw hr
        refine pure1 (v := .agg cs) h ⟨cs, rfl, h2⟩ ?_
        have := run_build (P := P) w t (ps.map fun p => (p.1, a.eval p.2)) cs (by simpa using h1)
        simp [execOp, ho, this]
      · obtain ⟨h0, rfl⟩ := of1 h
        obtain ⟨cs, h1, h2⟩ := built1_ok hT hz hw h0 hq
        refine ⟨R, w, _, ExtN.refl _ _ R, hR, h2, .inl ?_⟩
        have := run_build (P := P) w t (ps.map fun p => (p.1, a.eval p.2)) cs (by simpa using h1)
        simp [execOp, ho, this]
    · cases h
  case h_7 t x =>
    split at h
    · rename_i y hy
      obtain ⟨rfl, v, h1, h2, _⟩ := loadS_ok h hq (ev_ok hT hy) hR
      exact ⟨R, w, v, ExtN.refl _ _ R, hR, h1, .inl (by simp [execOp, ho, h2])⟩
    · cases h
  case h_8 t x y =>
    split at h
    · rename_i u v hu hv
      obtain ⟨rfl, hn, w', h1, h2, h3⟩ := storeS_ok h hq (ev_ok hT hu) (ev_ok hT hv) hR
      exact ⟨R, w', undef, by rw [hn]; exact ExtN.same _ R h3, h1, ⟨#[], rfl, trivial⟩, .inr ⟨by simp [execOp, ho, h2], rfl⟩⟩
    · cases h
  case h_9 x =>
    split at h
    · rename_i id off hx
      have := ev_ok hT hx
      obtain ⟨g, hg, e⟩ := this
      refine pure1 (v := a.eval x) h ⟨g, hg, e⟩ ?_
      simp [execOp, ho, e]
    · rename_i g off hx
      have e : a.eval x = _ := ev_ok hT hx
      refine pure1 (v := a.eval x) h e ?_
      simp [execOp, ho, e]
    · rename_i g fa fb hx
      obtain ⟨u, v, e, k1, k2⟩ := ev_ok hT hx
      refine pure1 (v := a.eval x) h ⟨u, v, e, k1, k2⟩ ?_
      simp [execOp, ho, e]
    · rename_i i hx
      obtain ⟨g, hg, e⟩ := ev_ok hT hx
      refine pure1 (v := a.eval x) h ⟨g, hg, e⟩ ?_
      simp [execOp, ho, e]
    · cases h
  case h_10 op t x y yt =>
    split at h
    · rename_i u v hu hv
      obtain ⟨h1, rfl⟩ := of1 h
      obtain ⟨r, h2, h3, h4⟩ := binS_ok (w := w) h1 hq (ev_ok hT hu) (ev_ok hT hv) x y
      exact ⟨R, w, r, ExtN.refl _ _ R, hR, h2, .inl (by simp [execOp, ho, h3, h4])⟩
    · cases h
  case h_11 op t x =>
    split at h
    · rename_i u hu
      obtain ⟨h1, rfl, rfl⟩ := one1 h
      obtain ⟨r, h2, h3⟩ := unS_ok (P := P) (w := w) h1 (ev_ok hT hu)
      exact ⟨R, w, r, ExtN.refl _ _ R, hR, h2, .inl (by simp [execOp, ho, h3])⟩
    · cases h
  case h_12 sr d x =>
    split at h
    · rename_i u hu
      obtain ⟨h1, rfl, rfl⟩ := one1 h
      obtain ⟨r, h2, h3⟩ := convS_ok (w := w) h1 (ev_ok hT hu)
      exact ⟨R, w, r, ExtN.refl _ _ R, hR, h2, .inl (by simp [execOp, ho, h3])⟩
    · cases h
  case h_13 f x y =>
    split at h
    · rename_i xs ys hx hy
      split at h
      · rename_i xf yf hxf hyf
        refine pure1 (v := .func f (x.map a.eval) (y.map a.eval)) h ⟨_, _, rfl, ?_, ?_⟩ (by simp [execOp, ho, Instr.makeFunc])
        · simpa using flats_ok hxf (evs_ok hT hx)
        · simpa using flats_ok hyf (evs_ok hT hy)
      · cases h
    · cases h
  case h_14 sr x f =>
    split at h
    · rename_i u hu
      obtain ⟨h1, rfl, rfl⟩ := one1 h
      obtain ⟨r, h2, h3⟩ := fieldAtS_ok (w := w) h1 (ev_ok hT hu)
      exact ⟨R, w, r, ExtN.refl _ _ R, hR, h2, .inl (by simp [execOp, ho, h3])⟩
    · cases h
  case h_15 t x f =>
    split at h
    · rename_i u hu
      obtain ⟨h1, rfl⟩ := of1 h
      obtain ⟨r, h2, h3⟩ := fieldS_ok (w := w) h1 hq (ev_ok hT hu)
      exact ⟨R, w, r, ExtN.refl _ _ R, hR, h2, .inl (by simp [execOp, ho, h3])⟩
    · cases h
  case h_16 t x i =>
    split at h
    · rename_i u v hu hv
      obtain ⟨h1, rfl⟩ := of1 h
      obtain ⟨r, h2, h3⟩ := indexAtS_ok (w := w) h1 hq (ev_ok hT hu) (ev_ok hT hv)
      exact ⟨R, w, r, ExtN.refl _ _ R, hR, h2, .inl (by simp [execOp, ho, h3])⟩
    · cases h
  case h_17 t x i =>
    split at h
    · rename_i u v hu hv
      obtain ⟨h1, rfl⟩ := of1 h
      obtain ⟨r, h2, h3⟩ := indexS_ok (w := w) h1 hq (ev_ok hT hu) (ev_ok hT hv)
      exact ⟨R, w, r, ExtN.refl _ _ R, hR, h2, .inl (by simp [execOp, ho, h3])⟩
    · cases h
  case h_18 x i =>
    split at h
    · rename_i l hl
      split at h
      · rename_i y hy
        obtain ⟨vs, e, hv⟩ := ev_ok hT hl
        obtain ⟨v, h1, h2⟩ := hv.nth hy
        refine pure1 (v := v) h h2 ?_
        simp only [Array.getElem?_toList] at h1
        simp [execOp, ho, e, Instr.extract, h1]
      · cases h
    · cases h
  case h_19 args ts =>
    split at h
    · rename_i t x ht hx
      have hv := evs_ok hT hx
      rw [nth_eq, Array.getElem?_toList] at ht
      have hargs : ∃ u, args.map a.eval = #[u] ∧ x.ok R u := by
        have e := hv.len_eq
        match hl : args.toList.map a.eval, hv with
        | [u], hu =>
          refine ⟨u, ?_, hu.1⟩
          apply Array.ext'
          simpa using hl
        | [], hu => exact hu.elim
        | _ :: _ :: _, hu => exact hu.2.elim
      obtain ⟨u, e, hu⟩ := hargs
      obtain ⟨rfl, r, h2, h3⟩ := lenX_ok (w := w) h hq hu o.type ts ht
      exact ⟨R, w, r, ExtN.refl _ _ R, hR, h2, .inl (by simp [execOp, ho, resolve, invoke, builtin, e, h3])⟩
    · cases h
  case h_20 t x lo hi =>
    split at h
    · rename_i u l hv hu hl hh
      obtain ⟨h1, rfl⟩ := of1 h
      have opt : ∀ {y : Option Operand} {s}, evO T y = some s → OptOk R s (y.map a.eval) := by
        intro y s hy
        cases y with
        | none => cases hy; trivial
        | some y =>
          obtain ⟨z, hz, rfl⟩ := Option.map_eq_some_iff.1 hy
          exact ev_ok hT hz
      obtain ⟨r, h2, h3⟩ := sliceL_ok (w := w) h1 hq (ev_ok hT hu) (opt hl) (opt hh)
      exact ⟨R, w, r, ExtN.refl _ _ R, hR, h2, .inl (by simp [execOp, ho, h3])⟩
    · cases h
  case h_21 t n ps =>
    obtain ⟨R', w', v, h1, h2, h3, h4⟩ := buildSliceS_ok h hT hR
    exact ⟨R', w', v, h1, h2, h3, .inl (by simp [execOp, ho, h4])⟩
  case h_22 args ts =>
    split at h
    · rename_i l hl
      split at h
      · rename_i k x r hr
        cases h
        have hv := intsOf_ok hr (evs_ok hT hl)
        cases hm : args.toList.map a.eval with
        | nil => rw [hm] at hv; exact hv.elim
        | cons v vs =>
          rw [hm] at hv
          have e : v = .int k x.den := hv.1
          have hf := max_fold (P := P) (w := w) maxI Builtin.max2 (fun k x k' y => by simp [Builtin.max2, maxI]) k (sndOf r) x vs (sndOf_ok hv.2)
          refine ⟨R, w, _, ExtN.refl _ _ R, hR, rfl, .inl ?_⟩
          have e2 : (args.map a.eval).toList = v :: vs := by simpa using hm
          have e3 : args.map a.eval = (v :: vs).toArray := by rw [← e2]
          simp [execOp, ho, resolve, invoke, builtin, e3, Builtin.max_, e, hf]
      · cases h
    · cases h
  case h_23 args ts =>
    split at h
    · rename_i l hl
      split at h
      · rename_i k x r hr
        cases h
        have hv := intsOf_ok hr (evs_ok hT hl)
        cases hm : args.toList.map a.eval with
        | nil => rw [hm] at hv; exact hv.elim
        | cons v vs =>
          rw [hm] at hv
          have e : v = .int k x.den := hv.1
          have hf := max_fold (P := P) (w := w) minI Builtin.min2 (fun k x k' y => by simp [Builtin.min2, minI]) k (sndOf r) x vs (sndOf_ok hv.2)
          refine ⟨R, w, _, ExtN.refl _ _ R, hR, rfl, .inl ?_⟩
          have e2 : (args.map a.eval).toList = v :: vs := by simpa using hm
          have e3 : args.map a.eval = (v :: vs).toArray := by rw [← e2]
          simp [execOp, ho, resolve, invoke, builtin, e3, Builtin.min_, e, hf]
      · cases h
    · cases h
  case h_24 => cases h
end
end Go.Proofs.YtjjeahnbppmigaaDoor
