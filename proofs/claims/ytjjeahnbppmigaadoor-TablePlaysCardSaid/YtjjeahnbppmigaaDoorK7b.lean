/- append, in the symbolic machine. No condition. -/
import Derived.Test.YtjjeahnbppmigaaDoorK7
import Derived.Lib.AppendStr
set_option linter.unusedVariables false
set_option linter.unusedSimpArgs false
namespace Go.Proofs.YtjjeahnbppmigaaDoor
set_option linter.unusedSectionVars false
variable [Gh]

section
variable {P : Program} {n0 : Nat} {F : Nat → Prop} {w0 w : World} {R : Ren} {m : SMem}
omit [Gh] in
theorem run_append_roomZ (w : World) (t ty e : TypeId) (i : TypeInfo) (ht : P.underlying t = some (.slice e)) (hi : P.info? e = some i) (g k c : Nat) (cur : Array Value) {fz : Nat × Nat} (hg : w.heap[g]? = some (.cells cur e fz)) (hz : FzOk fz cur.size)
    (a : Addr) (m c' : Nat) (news : List Value) (hl : news.length = m * i.size) (hn : ∀ j u, news[j]? = some u → w.cell? (a.add j) = some u) (h1 : ∀ u ∈ news, u.oneCell' = true) (hr : k + m ≤ c) (hf : k * i.size + news.length ≤ cur.size) :
    (Builtin.append_ #[t, t] ty #[.slice (some ⟨g, 0, none⟩) k c, .slice (some a) m c']).run P w = .ok (.slice (some ⟨g, 0, none⟩) (k + m) c) (w.setRow g (cur.toList.take (k * i.size) ++ news ++ cur.toList.drop (k * i.size + news.length)).toArray) := by
  have e1 := run_firstCells_some (P := P) w i.size m a m c' news hl hn
  have e2 := run_storeCells_Z (P := P) g (k * i.size) e fz news 0 cur w hg hz (by simpa using hf) h1
  simp only [Nat.add_zero] at e2
  simp [Builtin.append_, run_underlying ht, sizeOf, typeInfo, hi, Builtin.lenOf, hr, e1, Addr.add_lit, e2]
omit [Gh] in
theorem fitNat_ok {n k : SN} {b : Nat} {q : List Prop} (h : fitNat n k b = some q) (hq : ∀ p ∈ q, p) : (n.den + k.den) * b ≤ 140737488355328 ∧ n.den + k.den ≤ 140737488355328 := by
  unfold fitNat at h
  split at h
  · split at h
    · assumption
    · cases h
  · cases h
    exact hq _ (List.mem_singleton.2 rfl)
omit [Gh] in
theorem posN_ok {n : SN} {q : List Prop} (h : posN n = some q) (hq : ∀ p ∈ q, p) : 0 < n.den := by
  unfold posN at h
  split at h
  · split at h
    · assumption
    · cases h
  · cases h
    exact hq _ (List.mem_singleton.2 rfl)
omit [Gh] in
theorem preOf_ok {a : SA} {cs cs' : Array Value} (h : a.ok R cs) (hp : cs'.toList.take cs.size = cs.toList) (h1 : ∀ v ∈ cs'.toList, v.oneCell' = true) : (preOf a).ok R cs' := by
  cases a with
  | ls l =>
    refine ⟨?_, h1⟩
    have e := All2.len_eq h
    simp only [Array.length_toList] at e
    rw [e, hp]
    exact h
  | pre l =>
    refine ⟨?_, h1⟩
    have e := h.1.len_eq
    simp only [List.length_take, Array.length_toList] at e
    have e2 : cs'.toList.take l.length = cs.toList.take l.length := by
      rw [← hp, List.take_take, Nat.min_eq_left (by omega)]
    rw [e2]
    exact h.1
  | op a =>
    obtain ⟨rfl, _⟩ := h
    exact ⟨hp, h1⟩
  | pop a =>
    refine ⟨?_, h1⟩
    have := pop_size h
    rw [← h.1, ← hp, List.take_take, Nat.min_eq_left (by omega)]
  | raw a => exact h.elim
  | patch a o x => exact ⟨trivial, h1⟩
omit [Gh] in
theorem behindS_raw {a x r : SA} {k : SN} {q : List Prop} {cur : Array Value} (h : behindS a k x = some (q, r)) (ha : a.okM R cur) : a.ok R cur := by
  cases a with
  | raw c => cases h
  | _ => exact ha
omit [Gh] in
theorem behindS_ok {a x r : SA} {k : SN} {q : List Prop} {cur ys cs : Array Value} (h : behindS a k x = some (q, r)) (hq : ∀ p ∈ q, p) (ha : a.ok R cur) (hx : x.ok R ys) (hk : k.den ≤ cur.size)
    (hp : cs.toList.take (k.den + ys.size) = cur.toList.take k.den ++ ys.toList) (h1 : ∀ v ∈ cs.toList, v.oneCell' = true) : r.ok R cs := by
  have hlist : ∀ {l r' y : List SC}, takeN l k.den = some r' → All2 (SC.ok R) l (cur.toList.take l.length) → All2 (SC.ok R) y ys.toList → (SA.pre (r' ++ y)).ok R cs := by
    intro l r' y h1' h2 h3
    obtain ⟨rfl, h4⟩ := takeN_eq h1'
    refine ⟨?_, h1⟩
    have e := h3.len_eq
    simp only [Array.length_toList] at e
    have e2 : (l.take k.den ++ y).length = k.den + ys.size := by simp; omega
    rw [e2, hp]
    have := h2.take k.den
    rw [List.take_take, Nat.min_eq_left h4] at this
    exact this.append h3
  have hpop : ∀ {cs' ds : Array Value}, cur.toList.take cs'.size = cs'.toList → k.den = cs'.size → ds.toList = ys.toList → (SA.pop (cs' ++ ds)).ok R cs := by
    intro cs' ds e1 e2 e3
    refine ⟨?_, h1⟩
    have e4 : (cs' ++ ds).size = k.den + ys.size := by
      have := congrArg List.length e3
      simp only [Array.length_toList] at this
      rw [Array.size_append]
      omega
    rw [e4, hp, e2, e1, Array.toList_append, e3]
  unfold behindS at h
  split at h
  · split at h
    · rename_i r' hr
      cases h
      refine hlist hr ?_ hx
      rw [List.take_of_length_le (by have := All2.len_eq ha; omega)]
      exact ha
    · cases h
  · split at h
    · rename_i r' hr
      cases h
      exact hlist hr ha.1 hx
    · cases h
  · split at h
    · rename_i vs hvs
      cases h
      obtain ⟨rfl, _⟩ := ha
      exact hpop (List.take_of_length_le (by rw [Array.length_toList]; exact Nat.le_refl _)) (hq _ (List.mem_singleton.2 rfl)) (by rw [plains_ok hvs hx])
    · cases h
  · split at h
    · rename_i vs hvs
      cases h
      exact hpop ha.1 (hq _ (List.mem_singleton.2 rfl)) (by rw [plains_ok hvs hx])
    · cases h
  · cases h
    obtain ⟨rfl, _⟩ := ha
    obtain ⟨rfl, _⟩ := hx
    exact hpop (List.take_of_length_le (by rw [Array.length_toList]; exact Nat.le_refl _)) (hq _ (List.mem_singleton.2 rfl)) rfl
  · cases h
    obtain ⟨rfl, _⟩ := hx
    exact hpop ha.1 (hq _ (List.mem_singleton.2 rfl)) rfl
  · rename_i y
    cases h
    obtain ⟨rfl, _⟩ := hx
    have := hpop (cs' := #[]) (ds := ys) rfl rfl rfl
    simpa using this
  · split at h
    · rename_i vs hv hk'
      cases h
      obtain ⟨rfl, _⟩ := hx
      have e := All2.len_eq ha
      have ev := plains_ok hv ha
      have e2 := Nat.eq_of_beq_eq_true hk'
      rw [len_eq] at e2
      refine hpop ?_ ?_ rfl
      · rw [← ev]
        exact List.take_of_length_le (by simp)
      · rw [← ev, List.size_toArray]
        exact e2.trans e
    · cases h
  · split at h
    · rename_i vs hv hk'
      cases h
      obtain ⟨rfl, _⟩ := hx
      have e := All2.len_eq ha.1
      have ev := plains_ok hv ha.1
      have e2 := Nat.eq_of_beq_eq_true hk'
      rw [len_eq] at e2
      refine hpop ?_ ?_ rfl
      · rw [List.size_toArray, ← ev, ← e]
      · rw [← ev, List.size_toArray]
        exact e2.trans e
    · cases h
  · cases h
omit [Gh] in
theorem behindC_raw {cut : Bool} {a x r : SA} {k : SN} {q : List Prop} {cur : Array Value} (h : behindC cut a k x = some (q, r)) (ha : a.okM R cur) : a.ok R cur := by
  cases cut with
  | false => exact behindS_raw h ha
  | true => cases a with
    | raw c => cases x <;> cases h
    | _ => exact ha
omit [Gh] in
theorem behindC_ok {cut : Bool} {a x r : SA} {k : SN} {q : List Prop} {cur ys cs : Array Value} (h : behindC cut a k x = some (q, r)) (hq : ∀ p ∈ q, p) (ha : a.ok R cur) (hx : x.ok R ys) (hk : k.den ≤ cur.size)
    (hp : cs.toList.take (k.den + ys.size) = cur.toList.take k.den ++ ys.toList) (h1 : ∀ v ∈ cs.toList, v.oneCell' = true) : r.ok R cs := by
  cases cut with
  | false => exact behindS_ok h hq ha hx hk hp h1
  | true =>
    have hpop : ∀ {cs' ds : Array Value}, cur.toList.take cs'.size = cs'.toList → k.den ≤ cs'.size → ds.toList = ys.toList → (SA.pop (cs'.extract 0 k.den ++ ds)).ok R cs := by
      intro cs' ds e1 e2 e3
      refine ⟨?_, h1⟩
      have e4 : (cs'.extract 0 k.den ++ ds).size = k.den + ys.size := by
        have := congrArg List.length e3
        simp only [Array.length_toList] at this
        rw [Array.size_append, Array.size_extract]
        omega
      have e5 : (cs'.extract 0 k.den).toList = cur.toList.take k.den := by
        rw [Array.toList_extract, ← e1]
        simp [List.take_take, Nat.min_eq_left e2]
      rw [e4, hp, Array.toList_append, e3, e5]
    unfold behindC at h
    simp only at h
    split at h
    · split at h
      · rename_i vs hvs
        cases h
        obtain ⟨rfl, _⟩ := ha
        exact hpop (List.take_of_length_le (by rw [Array.length_toList]; exact Nat.le_refl _)) (hq _ (List.mem_singleton.2 rfl)) (by rw [plains_ok hvs hx])
      · cases h
    · split at h
      · rename_i vs hvs
        cases h
        exact hpop ha.1 (hq _ (List.mem_singleton.2 rfl)) (by rw [plains_ok hvs hx])
      · cases h
    · cases h
      obtain ⟨rfl, _⟩ := ha
      obtain ⟨rfl, _⟩ := hx
      exact hpop (List.take_of_length_le (by rw [Array.length_toList]; exact Nat.le_refl _)) (hq _ (List.mem_singleton.2 rfl)) rfl
    · cases h
      obtain ⟨rfl, _⟩ := hx
      exact hpop ha.1 (hq _ (List.mem_singleton.2 rfl)) rfl
    · exact behindS_ok h hq ha hx hk hp h1
    · exact behindS_ok h hq ha hx hk hp h1
    · cases h
omit [Gh] in
theorem whole_ok {c : SK} {a : SA} {sz cap : Nat} {g : Loc} {cur : Array Value} (h : whole c a sz = true) (hc : c.ok cap g.n) (hs : cur.size = g.n) (ha : a.ok R cur) : cap * sz = cur.size ∧ cap ≤ maxLen := by
  unfold whole at h
  split at h
  · rename_i s
    have e : s = sz := by simpa using h
    subst e
    obtain ⟨h1, h2⟩ := hc
    exact ⟨by omega, h2⟩
  · rename_i s
    have e : s = sz := by simpa using h
    subst e
    obtain ⟨h1, h2⟩ := hc
    exact ⟨by omega, h2⟩
  · rename_i c l
    simp only [Bool.and_eq_true, Nat.beq_eq] at h
    have e : cap = c := hc
    subst e
    have e2 := All2.len_eq ha
    rw [len_eq] at h
    simp only [Array.length_toList] at e2
    refine ⟨by omega, ?_⟩
    have := Nat.le_of_ble_eq_true h.2
    unfold maxLen
    omega
  · cases h

omit [Gh] in
def ExtB (base : Nat) (w w' : World) (m m' : SMem) (R R' : Ren) : Prop :=
  Ext R R' ∧ (∀ i g, R' i = some g → R i = some g ∨ (m.next ≤ i ∧ (w.heap.size ≤ g.b ∨ ∃ j b, base ≤ j ∧ R j = some g ∧ getB m.bl j = some b ∧ b.wr = true))) ∧ w.heap.size ≤ w'.heap.size
omit [Gh] in
def ExtA (base : Nat) (w w' : World) (n : Nat) (R R' : Ren) : Prop :=
  Ext R R' ∧ (∀ i g, R' i = some g → R i = some g ∨ (n ≤ i ∧ (w.heap.size ≤ g.b ∨ ∃ j, base ≤ j ∧ R j = some g))) ∧ w.heap.size ≤ w'.heap.size
theorem appendS_ok {base : Nat} {t : TypeId} {x y s : SV} {q : List Prop} {m' : SMem} {u v : Value} (h : appendS P base t x y m = .ok q s m') (hq : ∀ p ∈ q, p) (hx : x.ok R u) (hy : y.ok R v) (hR : Rel n0 F w0 R m w) (ty : TypeId) :
    ∃ R' w' r, ExtB base w w' m m' R R' ∧ m'.next = m.next + 1 ∧ Rel n0 F w0 R' m' w' ∧ s.ok R' r ∧ (Builtin.append_ #[t, t] ty #[u, v]).run P w = .ok r w' ∧ ∀ b, u = .slice none 0 0 → (Builtin.append_ #[t, t] ty #[.slice (some b) 0 0, v]).run P w = .ok r w' := by
  unfold appendS at h
  split at h
  case h_2 => cases h
  rename_i e hu
  split at h
  case h_2 => cases h
  rename_i i z hi hz
  split at h
  case isFalse => cases h
  rename_i hsz
  obtain ⟨i', zv, hi', hzz, hzo⟩ := zeroS_ok (R := R) hz
  rw [hi] at hi'
  cases hi'
  have hzl := All2.len_eq hzo
  simp only [Array.length_toList] at hzl
  rw [len_eq] at hsz
  have hzs : zv.cells.size = i.size := by omega
  have hzone : ∀ n, ∀ u ∈ (Builtin.zeroCells zv.cells n).toList, u.oneCell' = true := by
    intro n u hu
    simp only [Builtin.zeroCells, Array.toList_map, List.mem_map] at hu
    obtain ⟨k, _, rfl⟩ := hu
    have hk : k % zv.cells.size < zv.cells.size := Nat.mod_lt _ (by omega)
    rw [getElem!_pos zv.cells _ hk]
    exact All2.all (r := SC.ok R) (fun _ _ => SC.one) hzo _ (Array.getElem_mem_toList hk)
  dsimp only at h
  split at h
  case h_2 => cases h
  rename_i q1 k ys hxs
  split at hxs
  case h_2 => cases hxs
  rename_i j p k' c2
  split at hxs
  case h_2 => cases hxs
  rename_i c hc
  simp only [Option.map_eq_some_iff, Prod.mk.injEq] at hxs
  obtain ⟨⟨q0, y0⟩, hr, rfl, rfl, rfl⟩ := hxs
  obtain ⟨gy, cy, hgy, rfl, _, _⟩ := hy
  obtain ⟨gc, cs, fz, b1, b2, _, b3, _⟩ := hR.blk j c hc
  rw [hgy] at b1
  cases b1
  have main : (∀ p ∈ q0, p) → ∃ news : Array Value, news.size = k'.den * i.size ∧ y0.ok R news ∧ (∀ j u, news.toList[j]? = some u → w.cell? ((⟨gy.b, p.den, none⟩ : Addr).add j) = some u) := by
    intro hq0
    obtain ⟨l1, l2⟩ := rangeS_ok hr hq0 b3
    refine ⟨_, ?_, l2, extract_get b2⟩
    rw [mul_den] at l1 ⊢
    simp only [Array.size_extract]
    omega
  split at h
  · split at h
    · rename_i q2 q3 hp hf
      cases h
      obtain ⟨news, n1, n2, n3⟩ := main fun p hp => hq p (by simp [hp])
      have hpos := posN_ok hp fun p hp => hq p (by simp [hp])
      obtain ⟨f1, f2⟩ := fitNat_ok hf fun p hp => hq p (by simp [hp])
      simp only [SN.den, Nat.zero_add] at f1 f2
      obtain ⟨rfl, _⟩ := hx
      change k'.den * i.bytes ≤ _ at f1
      change k'.den ≤ _ at f2
      have hrun := run_append_nil (P := P) w t ty e i zv hu hi hzz ⟨gy.b, p.den, none⟩ k'.den cy news.toList (by simpa using n1) n3 hpos (by omega) (by omega)
      have hrun2 := fun b => run_append_grow (P := P) w t ty e i zv hu hi hzz b 0 0 [] (by simp) (by simp) ⟨gy.b, p.den, none⟩ k'.den cy news.toList (by simpa using n1) n3 (by omega) (by omega) (by rw [Nat.zero_add, nextslicecap_zero hpos]; omega)
      simp only [Nat.zero_add] at hrun2
      have hge := grownCap_ge w k'.den 0 e
      have hle := grownCap_le_maxLen w k'.den 0 e (by unfold maxLen; omega)
      generalize grownCap w k'.den 0 e = gcap at hrun hrun2 hge hle
      have hsize : (news ++ Builtin.zeroCells zv.cells (gcap - k'.den)).size = gcap * i.size := by
        rw [Array.size_append, size_zeroCells, n1, hzs, ← Nat.add_mul]
        congr 1
        omega
      obtain ⟨R', g1, g2, g3⟩ := hR.grow (w' := w.drew.alloc (.cells (news ++ Builtin.zeroCells zv.cells (gcap - k'.den)) e)) (L := ⟨w.heap.size, gcap * i.size⟩) (a := preOf y0) (cs := news ++ Builtin.zeroCells zv.cells (gcap - k'.den)) (t := e)
        (((Go.RowKit.Below.refl _ _).drew).alloc (Nat.le_refl _) _) (Nat.le_refl _) (by simp) (heap_alloc_new w.drew _) hsize
        (preOf_ok n2 (by simp) (by
          intro u hu
          rw [Array.toList_append] at hu
          rcases List.mem_append.1 hu with hu | hu
          · exact SA.one n2 u hu
          · exact hzone _ u hu))
      refine ⟨R', _, _, ⟨g1.1, fun a b hab => (g1.2.1 a b hab).imp (fun x => x) fun h => ⟨h.2, .inl h.1⟩, g1.2.2.1⟩, rfl, g3, ⟨_, gcap, g2, rfl, ⟨rfl, hle⟩, hge⟩, ?_⟩
      have e1 : news.toList.toArray = news := by simp
      rw [e1] at hrun
      refine ⟨hrun, fun b _ => ?_⟩
      have h2 := hrun2 b
      rw [e1] at h2
      simpa [SN.den] using h2
    · cases h
  · rename_i id n cp
    split at h
    · rename_i b q2 hb hf
      split at h
      · rename_i q3 r hw hbh
        cases h
        simp only [Bool.and_eq_true, Nat.beq_eq] at hw
        obtain ⟨⟨⟨hw1, hw2⟩, hw3⟩, hw4⟩ := hw
        obtain ⟨news, n1, n2, n3⟩ := main fun p hp => hq p (by simp [hp])
        obtain ⟨f1, f2⟩ := fitNat_ok hf fun p hp => hq p (by simp [hp])
        obtain ⟨g, cap, hg, rfl, hcap, hlen⟩ := hx
        obtain ⟨g', cur, fzb, a1, a2, hzb, a3, a4, again⟩ := hR.again hb hw1
        rw [hg] at a1
        cases a1
        replace a4 := behindC_raw hbh a4
        obtain ⟨w1, w2⟩ := whole_ok hw4 hcap a3 a4
        subst hw3
        have hns : n.den * i.size ≤ cur.size := by rw [← w1]; exact Nat.mul_le_mul_right _ hlen
        have hbase : base ≤ id := Nat.le_of_ble_eq_true hw2
        by_cases hfit : n.den + k'.den ≤ cap
        · have hroom : n.den * i.size + news.toList.length ≤ cur.size := by
            rw [Array.length_toList, n1, ← w1, ← Nat.add_mul]
            exact Nat.mul_le_mul_right _ hfit
          have hrun := run_append_roomZ (P := P) w t ty b.ty i hu hi g.b n.den cap cur a2 hzb ⟨gy.b, p.den, none⟩ k'.den cy news.toList (by simpa using n1) n3 (SA.one n2) hfit hroom
          have hsz : (overA cur (n.den * i.size) news.toList).size = cur.size := overA_size hroom
          have hrok : r.ok R (overA cur (n.den * i.size) news.toList) := by
            refine behindC_ok hbh (fun p hp => hq p (by simp [hp])) a4 n2 (by rw [mul_den]; exact hns) ?_ ?_
            · rw [mul_den]
              simp only [overA]
              rw [List.append_assoc, ← List.append_assoc, List.take_append_of_le_length (by simp; omega), List.take_of_length_le (by simp; omega)]
            · intro u hu
              simp only [overA, List.append_assoc, List.mem_append] at hu
              rcases hu with hu | hu | hu
              · exact SA.one a4 u (List.mem_of_mem_take hu)
              · exact SA.one n2 u hu
              · exact SA.one a4 u (List.mem_of_mem_drop hu)
          obtain ⟨R', r1, r2, r3, r4⟩ := again r _ hrok hsz
          refine ⟨R', _, _, ⟨r1, fun a d had => (r3 a d had).imp (fun x => x) fun h => ⟨by omega, .inr ⟨id, b, hbase, by rw [h.2]; exact hg, hb, hw1⟩⟩, by simp⟩, rfl, r4, ⟨g, cap, r2, rfl, ⟨by omega, w2⟩, by rw [add_den]; exact hfit⟩, ?_⟩
          rw [add_den]
          exact ⟨hrun, fun b hb => by cases hb⟩
        · have holdl : (cur.toList.take (n.den * i.size)).length = n.den * i.size := by simp; omega
          have holds : ∀ j v, (cur.toList.take (n.den * i.size))[j]? = some v → w.cell? ((⟨g.b, 0, none⟩ : Addr).add j) = some v := by
            intro j v hv
            rw [addr_add, Nat.zero_add, cell_of_row w g.b j cur b.ty fzb a2]
            rw [List.getElem?_take] at hv
            split at hv
            · simpa using hv
            · cases hv
          have hrun := run_append_grow (P := P) w t ty b.ty i zv hu hi hzz ⟨g.b, 0, none⟩ n.den cap _ holdl holds ⟨gy.b, p.den, none⟩ k'.den cy news.toList (by simpa using n1) n3 (by omega) (by omega) (growslice_fits (by omega) f1)
          have hge := grownCap_ge w (n.den + k'.den) cap b.ty
          have hle := grownCap_le_maxLen w (n.den + k'.den) cap b.ty (by unfold maxLen; omega)
          generalize grownCap w (n.den + k'.den) cap b.ty = gcap at hrun hge hle
          have hsize : ((cur.toList.take (n.den * i.size)).toArray ++ news ++ Builtin.zeroCells zv.cells (gcap - (n.den + k'.den))).size = gcap * i.size := by
            rw [Array.size_append, Array.size_append, size_zeroCells, n1, hzs, List.size_toArray, holdl, ← Nat.add_mul, ← Nat.add_mul]
            congr 1
            omega
          have hrok : r.ok R ((cur.toList.take (n.den * i.size)).toArray ++ news ++ Builtin.zeroCells zv.cells (gcap - (n.den + k'.den))) := by
            refine behindC_ok hbh (fun p hp => hq p (by simp [hp])) a4 n2 (by rw [mul_den]; exact hns) ?_ ?_
            · rw [mul_den]
              simp only [Array.toList_append]
              rw [List.take_append_of_le_length (by simp; omega), List.take_of_length_le (by simp; omega)]
            · intro u hu
              simp only [Array.toList_append, List.mem_append] at hu
              rcases hu with (hu | hu) | hu
              · exact SA.one a4 u (List.mem_of_mem_take hu)
              · exact SA.one n2 u hu
              · exact hzone _ u hu
          obtain ⟨R', g1, g2, g3⟩ := (hR.drop id).grow (w' := w.drew.alloc (.cells ((cur.toList.take (n.den * i.size)).toArray ++ news ++ Builtin.zeroCells zv.cells (gcap - (n.den + k'.den))) b.ty)) (L := ⟨w.heap.size, gcap * i.size⟩) (a := r) (t := b.ty)
            (((Go.RowKit.Below.refl _ _).drew).alloc (Nat.le_refl _) _) (Nat.le_refl _) (by simp) (heap_alloc_new w.drew _) hsize hrok
          refine ⟨R', _, _, ⟨g1.1, fun a d had => (g1.2.1 a d had).imp (fun x => x) fun h => ⟨h.2, .inl h.1⟩, g1.2.2.1⟩, rfl, g3, ⟨_, gcap, g2, rfl, ⟨rfl, hle⟩, by rw [add_den]; exact hge⟩, ?_⟩
          rw [add_den]
          have e1 : news.toList.toArray = news := by simp
          rw [e1] at hrun
          exact ⟨hrun, fun b hb => by cases hb⟩
      · cases h
    · cases h
  · cases h

omit [Gh] in
theorem emptyS_ok {y : SV} {v : Value} (h : emptyS y = true) (hy : y.ok R v) : ∃ a c, v = .slice a 0 c := by
  unfold emptyS at h
  split at h
  · exact hy
  · obtain ⟨a, rfl⟩ := hy; exact ⟨_, _, rfl⟩
  · obtain ⟨a, c, rfl⟩ := hy; exact ⟨_, _, rfl⟩
  · exact ⟨_, _, hy.1⟩
  · obtain ⟨g, c, _, rfl, _⟩ := hy; exact ⟨_, _, rfl⟩
  · cases h
omit [Gh] in
theorem run_append_none {t e ty : TypeId} {sz : Nat} (hu : P.underlying t = some (.slice e)) (h1 : (sizeOf e).run P w = .ok sz w) (b : Option Addr) (a : Option Addr) (c : Nat) :
    (Builtin.append_ #[t, t] ty #[.slice b 0 0, .slice a 0 c]).run P w = .ok (.slice b 0 0) w := by
  cases a <;> cases b <;> simp [Builtin.append_, Sem.run_bind, run_underlying hu, h1, Builtin.lenOf, Builtin.firstCells, loadCells, loadCellsFrom, storeCells]
omit [Gh] in
theorem run_append_some {t e ty : TypeId} {sz : Nat} (hu : P.underlying t = some (.slice e)) (h1 : (sizeOf e).run P w = .ok sz w) (b : Addr) (n cp : Nat) (a : Option Addr) (c : Nat) (hle : n ≤ cp) :
    (Builtin.append_ #[t, t] ty #[.slice (some b) n cp, .slice a 0 c]).run P w = .ok (.slice (some b) n cp) w := by
  cases a <;> simp [Builtin.append_, Sem.run_bind, run_underlying hu, h1, Builtin.lenOf, Builtin.firstCells, loadCells, loadCellsFrom, storeCells, hle]
theorem append0_ok {base : Nat} {t : TypeId} {x y s : SV} {q : List Prop} {m' : SMem} {u v : Value} (h : append0 P base t x y m = .ok q s m') (hq : ∀ p ∈ q, p) (hx : x.ok R u) (hy : y.ok R v) (hR : Rel n0 F w0 R m w) (ty : TypeId) :
    ∃ R' w' r, ExtB base w w' m m' R R' ∧ m'.next = m.next + 1 ∧ Rel n0 F w0 R' m' w' ∧ s.ok R' r ∧ (Builtin.append_ #[t, t] ty #[u, v]).run P w = .ok r w' := by
  have stay : Rel n0 F w0 R ⟨m.next + 1, m.bl, m.xs⟩ w := ⟨hR.inj, hR.lt, fun i g h => Nat.lt_succ_of_lt (hR.nx i g h), hR.blk, hR.base, hR.fr, hR.xo, hR.xi, hR.gl⟩
  unfold append0 at h
  split at h
  · rename_i e hu he
    split at h
    case h_2 => cases h
    rename_i sz hs
    cases h
    simp only [Bool.and_eq_true] at he
    obtain ⟨h1, _⟩ := sizeS_ok (w := w) hs
    obtain rfl : u = .slice none 0 0 := by
      have := he.1
      unfold isNilS at this
      split at this
      · exact hx.1
      · cases this
    obtain ⟨a, c, rfl⟩ := emptyS_ok he.2 hy
    exact ⟨R, w, .slice none 0 0, ⟨fun _ _ h => h, fun _ _ h => .inl h, Nat.le_refl _⟩, rfl, stay, ⟨rfl, rfl⟩, run_append_none hu h1 none a c⟩
  · rename_i e hu he
    split at h
    · obtain ⟨b, rfl⟩ := hx
      split at h
      · rename_i hem
        split at h
        case h_2 => cases h
        rename_i sz hs
        cases h
        obtain ⟨h1, _⟩ := sizeS_ok (w := w) hs
        obtain ⟨a, c, rfl⟩ := emptyS_ok hem hy
        exact ⟨R, w, .slice b 0 0, ⟨fun _ _ h => h, fun _ _ h => .inl h, Nat.le_refl _⟩, rfl, stay, ⟨b, rfl⟩, run_append_none hu h1 b a c⟩
      · obtain ⟨R', w', r, k1, k2, k3, k4, k5, k6⟩ := appendS_ok h hq (u := .slice none 0 0) ⟨rfl, rfl⟩ hy hR ty
        cases b with
        | none => exact ⟨R', w', r, k1, k2, k3, k4, k5⟩
        | some b => exact ⟨R', w', r, k1, k2, k3, k4, k6 b rfl⟩
    · split at h
      · rename_i hem hs
        cases h
        have hx' := hx
        obtain ⟨g, cp, _, rfl, _, hle⟩ := hx
        obtain ⟨h1, _⟩ := sizeS_ok (w := w) hs
        obtain ⟨a, c, rfl⟩ := emptyS_ok hem hy
        exact ⟨R, w, _, ⟨fun _ _ h => h, fun _ _ h => .inl h, Nat.le_refl _⟩, rfl, stay, hx', run_append_some hu h1 _ _ _ a c hle⟩
      · obtain ⟨R', w', r, k1, k2, k3, k4, k5, _⟩ := appendS_ok h hq hx hy hR ty
        exact ⟨R', w', r, k1, k2, k3, k4, k5⟩
    · obtain ⟨R', w', r, k1, k2, k3, k4, k5, _⟩ := appendS_ok h hq hx hy hR ty
      exact ⟨R', w', r, k1, k2, k3, k4, k5⟩
  · cases h
omit [Gh] in
theorem ExtB.toA {base : Nat} {w w' : World} {m m' : SMem} {R R' : Ren} (h : ExtB base w w' m m' R R') : ExtA base w w' m.next R R' :=
  ⟨h.1, fun i g hi => (h.2.1 i g hi).imp (fun x => x) fun ⟨h1, h2⟩ => ⟨h1, h2.imp (fun x => x) fun ⟨j, _, h3, h4, _⟩ => ⟨j, h3, h4⟩⟩, h.2.2⟩
theorem xapp_ok {base : Nat} {T : Tm} {a : Act} {o : Oper} {q : List Prop} {s : SV} {m' : SMem} (h : xapp P base T m o.op = .ok q s m') (hq : ∀ p ∈ q, p) (hT : TmOk R T a) (hR : Rel n0 F w0 R m w) :
    ∃ R' w' r, ExtB base w w' m m' R R' ∧ m'.next = m.next + 1 ∧ Rel n0 F w0 R' m' w' ∧ s.ok R' r ∧ Ends P a o w w' r := by
  generalize ho : o.op = op at h
  unfold xapp at h
  split at h
  · rename_i args ts
    split at h
    · rename_i t u x y hts hxy
      split at h
      · rename_i e
        subst e
        have hv := evs_ok hT hxy
        have hargs : ∃ u v, args.map a.eval = #[u, v] ∧ x.ok R u ∧ y.ok R v := by
          match hl : args.toList.map a.eval, hv with
          | [u, v], hu =>
            refine ⟨u, v, ?_, hu.1, hu.2.1⟩
            apply Array.ext'
            simpa using hl
          | [], hu => exact hu.elim
          | [_], hu => exact hu.2.elim
          | _ :: _ :: _ :: _, hu => exact hu.2.2.elim
        obtain ⟨u, v, e, hu, hv⟩ := hargs
        obtain ⟨R', w', r, h1, h2, h3, h4, h5⟩ := append0_ok h hq hu hv hR o.type
        have e2 : ts = #[t, t] := by rw [← Array.toArray_toList (xs := ts), hts]
        exact ⟨R', w', r, h1, h2, h3, h4, .inl (by simp [execOp, ho, resolve, invoke, builtin, e, e2, h5])⟩
      · cases h
    · cases h
  · cases h
omit [Gh] in
theorem xappE_ok {T : Tm} {a : Act} {o : Oper} {s : SV} (h : xappE P T o.op = some s) (hT : TmOk R T a) : ∃ r, s.ok R r ∧ Ends P a o w w r := by
  generalize ho : o.op = op at h
  unfold xappE at h
  split at h
  case h_2 => cases h
  rename_i args ts
  split at h
  case h_2 => cases h
  rename_i t u id off n c x hts hxy
  split at h
  case h_2 => cases h
  rename_i e hu
  have hv := evs_ok hT hxy
  have hargs : ∃ u v, args.map a.eval = #[u, v] ∧ (SV.s (.c (.f (.slice id off n c)))).ok R u ∧ x.ok R v := by
    match hl : args.toList.map a.eval, hv with
    | [u, v], hu =>
      refine ⟨u, v, ?_, hu.1, hu.2.1⟩
      apply Array.ext'
      simpa using hl
    | [], hu => exact hu.elim
    | [_], hu => exact hu.2.elim
    | _ :: _ :: _ :: _, hu => exact hu.2.2.elim
  obtain ⟨z, v, e3, hz, hv⟩ := hargs
  have hz' := hz
  obtain ⟨g, cp, _, rfl, _, hle⟩ := hz
  have e2 : ts = #[t, u] := by rw [← Array.toArray_toList (xs := ts), hts]
  split at h
  · rename_i hs he
    cases h
    rename_i hs
    simp only [Bool.and_eq_true] at he
    obtain ⟨he1, he2⟩ := he
    have e1 := Nat.eq_of_beq_eq_true he2
    subst e1
    obtain ⟨h1, _⟩ := sizeS_ok (w := w) hs
    obtain ⟨b, cb, rfl⟩ := emptyS_ok he1 hv
    have hrun := run_append_some (P := P) (w := w) (ty := o.type) hu h1 ⟨g.b, off.den, none⟩ n.den cp b cb hle
    exact ⟨_, hz', .inl (by simp [execOp, ho, resolve, invoke, builtin, e3, e2, hrun])⟩
  · cases h
end
end Go.Proofs.YtjjeahnbppmigaaDoor
