/- A region that draws its order: each order leads to what the text's own order shows, if operations that clash are ordered. No condition. -/
import Derived.Test.YtjjeahnbppmigaaDoorK8m
set_option linter.unusedVariables false
set_option linter.unusedSimpArgs false
namespace Go.Proofs.YtjjeahnbppmigaaDoor

/-! What is below a number needs no more of the renaming. -/
def cutR (R : Ren) (n : Nat) : Ren := fun i => if i < n then R i else none
theorem allB_iff {α : Type} {p : α → Bool} : ∀ {l : List α}, allB p l = true ↔ ∀ x ∈ l, p x = true
  | [] => by simp [allB_nil]
  | a :: l => by simp [allB_cons, allB_iff (l := l)]
section
variable {R : Ren} {n : Nat}
theorem cutR_ext : Ext (cutR R n) R := by
  intro i g h
  unfold cutR at h
  split at h
  · exact h
  · cases h
theorem cutR_lt {i : Nat} {g : Loc} (h : R i = some g) (hi : i < n) : cutR R n i = some g := by
  unfold cutR
  rw [if_pos hi]
  exact h
theorem SF.cut {x : SF} {v : Value} (hl : x.lt n = true) (h : x.ok R v) : x.ok (cutR R n) v := by
  cases x with
  | ptr id off =>
    obtain ⟨g, h1, h2⟩ := h
    exact ⟨g, cutR_lt h1 (by simpa [SF.lt] using hl), h2⟩
  | slice id off len cap =>
    obtain ⟨g, c, h1, h2⟩ := h
    exact ⟨g, c, cutR_lt h1 (by simpa [SF.lt] using hl), h2⟩
  | mp id =>
    obtain ⟨g, h1, h2⟩ := h
    exact ⟨g, cutR_lt h1 (by simpa [SF.lt] using hl), h2⟩
  | _ => exact h
theorem All2.cut {α : Type} {p : α → Bool} {r s : α → Value → Prop} (hrs : ∀ a v, p a = true → r a v → s a v) : ∀ {l : List α} {m : List Value}, allB p l = true → All2 r l m → All2 s l m
  | [], [], _, _ => trivial
  | a :: l, v :: m, hl, h => by
    simp only [allB_cons, Bool.and_eq_true] at hl
    exact ⟨hrs _ _ hl.1 h.1, All2.cut hrs hl.2 h.2⟩
  | [], _ :: _, _, h => h.elim
  | _ :: _, [], _, h => h.elim
theorem SC.cut {x : SC} {v : Value} (hl : x.lt n = true) (h : x.ok R v) : x.ok (cutR R n) v := by
  cases x with
  | f x => exact SF.cut hl h
  | fn g a b =>
    simp only [SC.lt, Bool.and_eq_true] at hl
    obtain ⟨x, y, h1, h2, h3⟩ := h
    exact ⟨x, y, h1, All2.cut (fun _ _ => SF.cut) hl.1 h2, All2.cut (fun _ _ => SF.cut) hl.2 h3⟩
  | yl id =>
    obtain ⟨g, h1, h2⟩ := h
    exact ⟨g, cutR_lt h1 (by simpa [SC.lt] using hl), h2⟩
  | ifc t a l => cases a <;> (obtain ⟨x, h1, h2⟩ := h; exact ⟨x, h1, All2.cut (fun _ _ => SF.cut) hl h2⟩)
theorem SA.cut {x : SA} {v : Array Value} (hl : x.lt n = true) (h : x.ok R v) : x.ok (cutR R n) v := by
  cases x with
  | ls l => exact All2.cut (r := SC.ok R) (fun _ _ => SC.cut) hl h
  | pre l => exact ⟨All2.cut (r := SC.ok R) (fun _ _ => SC.cut) hl h.1, h.2⟩
  | op cs => exact h
  | pop cs => exact h
  | raw cs => exact h
  | patch a o x => obtain ⟨⟨u, h1, h2⟩, h3⟩ := h; exact ⟨⟨u, SF.cut hl h1, h2⟩, h3⟩
theorem SA.cutM {x : SA} {v : Array Value} (hl : x.lt n = true) (h : x.okM R v) : x.okM (cutR R n) v := by
  cases x with
  | ls l => exact SA.cut (x := .ls l) hl h
  | pre l => exact SA.cut (x := .pre l) hl h
  | op cs => exact h
  | pop cs => exact h
  | raw cs => exact h
  | patch a o x => exact SA.cut (x := .patch a o x) hl h
theorem S1.cut {x : S1} {v : Value} (hl : x.lt n = true) (h : x.ok R v) : x.ok (cutR R n) v := by
  cases x with
  | c x => exact SC.cut hl h
  | agg a => obtain ⟨cs, h1, h2⟩ := h; exact ⟨cs, h1, SA.cut hl h2⟩
theorem SV.cut {x : SV} {v : Value} (hl : x.lt n = true) (h : x.ok R v) : x.ok (cutR R n) v := by
  cases x with
  | s x => exact S1.cut hl h
  | tup l => obtain ⟨cs, h1, h2⟩ := h; exact ⟨cs, h1, All2.cut (fun _ _ => S1.cut) hl h2⟩
end

theorem onlyB_get {n : Nat} {wr : Bool} {bl : Tr SBlk} : ∀ {l : List Nat} {i : Nat} {b : SBlk}, getB (onlyB n wr bl l) i = some b → i ∈ l ∧ ∃ c, getB bl i = some c ∧ (Nat.blt i n && c.arr.lt n) = true ∧ b = ⟨c.arr, c.ty, c.wr && wr⟩
  | [], i, b, h => by
    have h : (Tr.nil : Tr SBlk).get i = some b := h
    rw [Tr.get_nil] at h
    cases h
  | j :: l, i, b, h => by
    have skip : getB (onlyB n wr bl l) i = some b → i ∈ j :: l ∧ ∃ c, getB bl i = some c ∧ (Nat.blt i n && c.arr.lt n) = true ∧ b = ⟨c.arr, c.ty, c.wr && wr⟩ := fun h =>
      let ⟨h1, h2⟩ := onlyB_get h
      ⟨List.mem_cons_of_mem _ h1, h2⟩
    simp only [onlyB] at h
    split at h
    · rename_i c hc
      split at h
      · rename_i hlt
        rw [getB_set] at h
        split at h
        · rename_i e
          subst e
          cases h
          exact ⟨List.mem_cons_self .., c, hc, hlt, rfl⟩
        · exact skip h
      · exact skip h
    · exact skip h
theorem onlyB_some {n : Nat} {wr : Bool} {bl : Tr SBlk} {c : SBlk} {i : Nat} (hc : getB bl i = some c) (hl : (Nat.blt i n && c.arr.lt n) = true) : ∀ {l : List Nat}, i ∈ l → getB (onlyB n wr bl l) i = some ⟨c.arr, c.ty, c.wr && wr⟩
  | j :: l, h => by
    simp only [onlyB]
    have hc' : bl.get i = some c := hc
    by_cases e : j = i
    · subst e
      rw [hc']
      dsimp only
      rw [hl]
      dsimp only
      rw [getB_set, if_pos rfl]
    · have hi : i ∈ l := by
        rcases List.mem_cons.1 h with h | h
        · exact (e h.symm).elim
        · exact h
      split
      · split
        · rw [getB_set, if_neg (fun h => e h.symm)]
          exact onlyB_some hc hl hi
        · exact onlyB_some hc hl hi
      · exact onlyB_some hc hl hi
theorem appLoc_get {n : Nat} {bl : Tr SBlk} {foot dst : List Nat} {i : Nat} {b : SBlk} (h : getB (appLoc n bl foot dst) i = some b) :
    i ∈ foot ∧ ∃ c, getB bl i = some c ∧ (Nat.blt i n && c.arr.lt n) = true ∧ b.arr = c.arr ∧ b.ty = c.ty ∧ (b.wr = true → c.wr = true ∧ i ∈ dst) := by
  have ro : ∀ {i b}, getB (onlyB n false bl foot) i = some b → i ∈ foot ∧ ∃ c, getB bl i = some c ∧ (Nat.blt i n && c.arr.lt n) = true ∧ b.arr = c.arr ∧ b.ty = c.ty ∧ (b.wr = true → c.wr = true ∧ i ∈ dst) := by
    intro i b h
    obtain ⟨h1, c, h2, h3, rfl⟩ := onlyB_get h
    exact ⟨h1, c, h2, h3, rfl, rfl, fun h => by simp at h⟩
  unfold appLoc at h
  split at h
  · rename_i k l
    split at h
    · rename_i c hc
      split at h
      · rename_i hk
        rw [getB_set] at h
        split at h
        · rename_i e
          subst e
          cases h
          simp only [Bool.and_eq_true] at hk
          exact ⟨memB_iff.1 hk.2, c, hc, by rw [Bool.and_eq_true]; exact hk.1, rfl, rfl, fun h => ⟨h, List.mem_cons_self ..⟩⟩
        · exact ro h
      · exact ro h
    · exact ro h
  · exact ro h
theorem delB_get : ∀ (l : List Nat) (t : Tr SBlk) (i : Nat), getB (delB l t) i = if memB l i = true then none else getB t i
  | [], t, i => by simp [delB, memB_nil]
  | a :: l, t, i => by
    simp only [delB, getB_set, memB_cons, delB_get l t i]
    by_cases e : i = a
    · subst e; simp
    · have e' : Nat.beq a i = false := by
        cases h : Nat.beq a i with
        | false => rfl
        | true => exact (e (Nat.eq_of_beq_eq_true h).symm).elim
      have e2 : (Nat.beq a i || memB l i) = memB l i := by rw [e', Bool.false_or]
      simp only [if_neg e, e2]
theorem collect_get {bl : Tr SBlk} : ∀ {l : List Nat} {i : Nat} {b : SBlk}, getL (collect bl l) i = some b → i ∈ l ∧ getB bl i = some b
  | [], _, _, h => by cases h
  | j :: l, i, b, h => by
    simp only [collect] at h
    split at h
    · rename_i c hc
      simp only [getL] at h
      split at h
      · rename_i e
        have e' : j = i := by simpa using e
        subst e'
        cases h
        exact ⟨List.mem_cons_self .., hc⟩
      · obtain ⟨h1, h2⟩ := collect_get h
        exact ⟨List.mem_cons_of_mem _ h1, h2⟩
    · obtain ⟨h1, h2⟩ := collect_get h
      exact ⟨List.mem_cons_of_mem _ h1, h2⟩
theorem collect_some {bl : Tr SBlk} {i : Nat} {b : SBlk} (hb : getB bl i = some b) : ∀ {l : List Nat}, i ∈ l → getL (collect bl l) i = some b
  | [], h => by cases h
  | j :: l, h => by
    simp only [collect]
    by_cases e : j = i
    · subst e
      have hb : bl.get j = some b := hb
      rw [hb]
      simp [getL]
    · have h' : i ∈ l := by
        rcases List.mem_cons.1 h with h | h
        · exact (e h.symm).elim
        · exact h
      have ih := collect_some hb h'
      split
      · simp only [getL]
        rw [if_neg (by simpa using e)]
        exact ih
      · exact ih
theorem insB_get : ∀ (l : List (Nat × SBlk)) (t : Tr SBlk) (i : Nat), getB (insB l t) i = match getL l i with | some x => some x | none => getB t i
  | [], _, _ => rfl
  | (j, b) :: l, t, i => by
    simp only [insB, getL]
    rw [getB_set]
    by_cases e : i = j
    · subst e; simp
    · rw [if_neg e, if_neg (by simpa using fun h => e h.symm)]
      exact insB_get l t i
theorem upFrom_mem : ∀ {k n i : Nat}, i ∈ upFrom k n → n ≤ i
  | 0, _, _, h => by cases h
  | k + 1, n, i, h => by
    rcases List.mem_cons.1 h with rfl | h
    · exact Nat.le_refl _
    · have := upFrom_mem h; omega
theorem keepB_iff {a b : Tr SBlk} {foot : List Nat} (h : keepB a b foot = true) {i : Nat} {x : SBlk} (hi : i ∈ foot) (hx : getB a i = some x) : ∃ y, getB b i = some y := by
  have := allB_iff.1 h i hi
  have hx : a.get i = some x := hx
  rw [hx] at this
  exact Option.isSome_iff_exists.1 this
theorem sameB_iff {a b : Tr SBlk} {foot : List Nat} (h : sameB a b foot = true) {i : Nat} {x : SBlk} (hi : i ∈ foot) (hx : getB b i = some x) : ∃ y, getB a i = some y ∧ y.wr = x.wr := by
  have := allB_iff.1 h i hi
  have hx : b.get i = some x := hx
  rw [hx] at this
  dsimp only at this
  split at this
  · rename_i y hy
    exact ⟨y, hy, by simpa using this⟩
  · cases this
theorem XO.cutM {R : Ren} {n : Nat} {es : List (SF × S1 × Nat)} {c : Nat} {o : Obj} (hl : (XO.map es c).lt n = true) (h : (XO.map es c).ok R o) : (XO.mapR es c).ok (cutR R n) o := by
  obtain ⟨l, h1, h2⟩ := h
  refine ⟨l, h1, ?_⟩
  replace hl : allB (fun (x : SF × S1 × Nat) => x.1.lt n && x.2.1.lt n) es = true := hl
  clear h1
  generalize l.toList = l at h2
  induction es generalizing l with
  | nil => cases l with
    | nil => trivial
    | cons _ _ => exact h2.elim
  | cons x es ih => cases l with
    | nil => exact h2.elim
    | cons e l =>
      simp only [allB_cons, Bool.and_eq_true] at hl
      obtain ⟨⟨k1, k2, k3⟩, k4⟩ := h2
      exact ⟨⟨SF.cut hl.1.1 k1, S1.cut hl.1.2 k2, k3⟩, ih hl.2 l k4⟩
def XO.roD : XO → XO
  | .map es c => .mapR es c
  | .mapI _ kk vk es => .mapI false kk vk es
  | x => x
def XO.isM : XO → Bool
  | .map _ _ | .mapR _ _ | .mapI _ _ _ _ => true
  | _ => false
theorem XO.roD_ok {R : Ren} {n : Nat} {x : XO} {o : Obj} (hm : x.isM = true) (hl : x.lt n = true) (h : x.ok R o) : x.roD.ok (cutR R n) o ∧ x.roD.own = false := by
  cases x with
  | map es c => exact ⟨XO.cutM hl h, rfl⟩
  | mapR es c => exact ⟨XO.cutM (es := es) (c := c) hl h, rfl⟩
  | mapI w kk vk es => exact ⟨h, rfl⟩
  | _ => cases hm
theorem onlyX_get {xs : List XB} {n : Nat} : ∀ {l : List Nat} {i : Nat} {x : XO}, getX (onlyX xs n l) i = some x → i ∈ l ∧ i < n ∧ ∃ y, x = y.roD ∧ y.isM = true ∧ y.lt n = true ∧ getX xs i = some y
  | [], _, _, h => by cases h
  | j :: l, i, x, h => by
    have skip : getX (onlyX xs n l) i = some x → i ∈ j :: l ∧ i < n ∧ ∃ y, x = y.roD ∧ y.isM = true ∧ y.lt n = true ∧ getX xs i = some y := fun h =>
      let ⟨k1, k2⟩ := onlyX_get h
      ⟨List.mem_cons_of_mem _ k1, k2⟩
    have take : ∀ {y}, getX xs j = some y → y.isM = true → getX (if (Nat.blt j n && y.lt n) = true then ⟨j, y.roD⟩ :: onlyX xs n l else onlyX xs n l) i = some x →
        i ∈ j :: l ∧ i < n ∧ ∃ y, x = y.roD ∧ y.isM = true ∧ y.lt n = true ∧ getX xs i = some y := by
      intro y hj hm h
      split at h
      · rename_i hc
        simp only [Bool.and_eq_true] at hc
        simp only [getX] at h
        split at h
        · rename_i e
          have e' : j = i := by simpa using e
          cases h
          subst e'
          exact ⟨List.mem_cons_self .., by simpa using hc.1, y, rfl, hm, hc.2, hj⟩
        · exact skip h
      · exact skip h
    simp only [onlyX] at h
    split at h
    · rename_i es c hj
      exact take hj rfl h
    · rename_i es c hj
      exact take hj rfl h
    · rename_i w kk vk es hj
      refine take hj rfl ?_
      rw [show (Nat.blt j n && (XO.mapI w kk vk es).lt n) = Nat.blt j n from Bool.and_true _]
      exact h
    · exact skip h
theorem newsX_get {n : Nat} : ∀ {l : List XB} {i : Nat} {x : XO}, getX (newsX n l) i = some x → n ≤ i ∧ getX l i = some x
  | [], _, _, h => by cases h
  | c :: l, i, b, h => by
    simp only [newsX] at h
    split at h
    · rename_i hn
      simp only [getX] at h ⊢
      split at h
      · rename_i e
        cases h
        have e' : c.id = i := by simpa using e
        rw [if_pos e]
        exact ⟨by simpa [e'] using hn, rfl⟩
      · rename_i e
        rw [if_neg e]
        exact newsX_get h
    · rename_i hn
      obtain ⟨h1, h2⟩ := newsX_get h
      refine ⟨h1, ?_⟩
      have : ¬ Nat.beq c.id i = true := by
        intro e
        have e' : c.id = i := by simpa using e
        subst e'
        exact hn (by simpa using h1)
      simp only [getX]
      rw [if_neg this]
      exact h2
theorem getX_append : ∀ (a b : List XB) (i : Nat), getX (a ++ b) i = match getX a i with | some x => some x | none => getX b i
  | [], b, i => by simp [getX]
  | c :: a, b, i => by
    simp only [List.cons_append, getX]
    split
    · rfl
    · exact getX_append a b i
theorem onlyR_get {T : Tm} {n : Nat} : ∀ {l : List Nat} {i : Nat} {x : Option SV}, (onlyR T n l).get i = some x → ∃ s, x = some s ∧ i ∈ l ∧ T.get i = some s ∧ s.lt n = true
  | [], i, x, h => by
    have h : (Tr.nil : Tr (Option SV)).get i = some x := h
    rw [Tr.get_nil] at h
    cases h
  | j :: l, i, x, h => by
    have skip : (onlyR T n l).get i = some x → ∃ s, x = some s ∧ i ∈ j :: l ∧ T.get i = some s ∧ s.lt n = true := fun h =>
      let ⟨s, h1, h2, h3⟩ := onlyR_get h
      ⟨s, h1, List.mem_cons_of_mem _ h2, h3⟩
    simp only [onlyR] at h
    split at h
    · rename_i v hv
      split at h
      · rename_i hlt
        rw [Tr.get_set] at h
        split at h
        · rename_i e
          subst e
          cases h
          exact ⟨v, rfl, List.mem_cons_self .., hv, hlt⟩
        · exact skip h
      · exact skip h
    · exact skip h
theorem onlyT_get {keep : List Nat} {n : Nat} {T : Tm} {i : Nat} {s : SV} (h : (onlyT keep n T).get i = some s) : i ∈ keep ∧ T.get i = some s ∧ s.lt n = true := by
  unfold Tm.get onlyT at h
  dsimp only at h
  split at h
  · rename_i x hx
    subst h
    obtain ⟨s', e, h1, h2, h3⟩ := onlyR_get hx
    cases e
    exact ⟨h1, h2, h3⟩
  · split at h
    · cases h
    · cases h

/-! What some of a row's changes make of what was there. -/
section over
variable {K V : Type} (init : K → V) (rec : Nat → K → Option V)
def stat (D : Nat → Bool) : Nat → K → V
  | 0, k => init k
  | i + 1, k => if D i then (rec i k).getD (stat D i k) else stat D i k
variable {init rec}
theorem stat_none {D : Nat → Bool} {k : K} {j : Nat} : ∀ {n : Nat}, j ≤ n → (∀ i, j ≤ i → i < n → D i = true → rec i k = none) → stat init rec D n k = stat init rec D j k
  | 0, h, _ => by
    obtain rfl : j = 0 := (by omega)
    rfl
  | n + 1, h, hn => by
    by_cases e : j = n + 1
    · rw [e]
    · rw [stat]
      have ih := stat_none (n := n) (show j ≤ n by omega) fun i h1 h2 => hn i h1 (by omega)
      split
      · rename_i hd
        rw [hn n (by omega) (by omega) hd, Option.getD_none, ih]
      · exact ih
theorem stat_same {D D' : Nat → Bool} {k : K} : ∀ {n : Nat}, (∀ i, i < n → rec i k ≠ none → D i = D' i) → stat init rec D n k = stat init rec D' n k
  | 0, _ => rfl
  | n + 1, h => by
    have ih := stat_same (n := n) fun i hi => h i (by omega)
    simp only [stat, ih]
    cases hr : rec n k with
    | none => cases D n <;> cases D' n <;> simp
    | some v => rw [h n (by omega) (by simp [hr])]
theorem stat_pre {D : Nat → Bool} {k : K} {j n : Nat} (hj : j ≤ n) (h1 : ∀ i, i < j → rec i k ≠ none → D i = true) (h2 : ∀ i, j ≤ i → i < n → D i = true → rec i k = none) :
    stat init rec D n k = stat init rec (fun _ => true) j k := by
  rw [stat_none hj h2]
  exact stat_same fun i hi hr => h1 i hi hr
theorem stat_put {D : Nat → Bool} {k : K} {j n : Nat} (hj : j < n) (hD : D j = false) (h : rec j k ≠ none → ∀ i, j < i → i < n → D i = true → rec i k = none) :
    stat init rec (fun i => i == j || D i) n k = (rec j k).getD (stat init rec D n k) := by
  cases hr : rec j k with
  | none =>
    rw [Option.getD_none]
    refine stat_same fun i _ hi => ?_
    by_cases e : i = j
    · subst e; exact (hi hr).elim
    · simp [e]
  | some v =>
    have h' := h (by simp [hr])
    rw [Option.getD_some, stat_none (j := j + 1) (by omega) fun i h1 h2 hd => h' i (by omega) h2 (by
      have : i ≠ j := by omega
      simpa [this] using hd)]
    simp [stat, hr]
end over
end Go.Proofs.YtjjeahnbppmigaaDoor
