/- A region that draws its order: each order leads to what the text's own order shows, if operations that clash are ordered. No condition. -/
import Derived.Test.YtahfhgdafobfmaaDoorK8m
namespace Go.Proofs.YtahfhgdafobfmaaDoor

/-! What is below a number needs no more of the renaming. -/
def cutR (R : Ren) (n : Nat) : Ren := fun i => if i < n then R i else none
theorem allB_iff {α : Type} {p : α → Bool} : ∀ {l : List α}, allB p l = true ↔ ∀ x ∈ l, p x = true
  | [] => by simp [allB]
  | a :: l => by simp [allB, allB_iff (l := l)]
section
variable {R : Ren} {n : Nat}
theorem cutR_ext : Ext (cutR R n) R := by
  intro i g h
  unfold cutR at h
  split at h
  · exact h
  · cases h
theorem cutR_lt {i : Nat} {g : Loc} (h : R i = some g) (hi : i < n) : cutR R n i = some g := by
  unfold cutR
  rw [if_pos hi]
  exact h
theorem SF.cut {x : SF} {v : Value} (hl : x.lt n = true) (h : x.ok R v) : x.ok (cutR R n) v := by
  cases x with
  | ptr id off =>
    obtain ⟨g, h1, h2⟩ := h
    exact ⟨g, cutR_lt h1 (by simpa [SF.lt] using hl), h2⟩
  | slice id off len cap =>
    obtain ⟨g, c, h1, h2⟩ := h
    exact ⟨g, c, cutR_lt h1 (by simpa [SF.lt] using hl), h2⟩
  | mp id =>
    obtain ⟨g, h1, h2⟩ := h
    exact ⟨g, cutR_lt h1 (by simpa [SF.lt] using hl), h2⟩
  | _ => exact h
theorem All2.cut {α : Type} {p : α → Bool} {r s : α → Value → Prop} (hrs : ∀ a v, p a = true → r a v → s a v) : ∀ {l : List α} {m : List Value}, allB p l = true → All2 r l m → All2 s l m
  | [], [], _, _ => trivial
  | a :: l, v :: m, hl, h => by
    simp only [allB, Bool.and_eq_true] at hl
    exact ⟨hrs _ _ hl.1 h.1, All2.cut hrs hl.2 h.2⟩
  | [], _ :: _, _, h => h.elim
  | _ :: _, [], _, h => h.elim
theorem SC.cut {x : SC} {v : Value} (hl : x.lt n = true) (h : x.ok R v) : x.ok (cutR R n) v := by
  cases x with
  | f x => exact SF.cut hl h
  | fn g a b =>
    simp only [SC.lt, Bool.and_eq_true] at hl
    obtain ⟨x, y, h1, h2, h3⟩ := h
    exact ⟨x, y, h1, All2.cut (fun _ _ => SF.cut) hl.1 h2, All2.cut (fun _ _ => SF.cut) hl.2 h3⟩
  | yl id =>
    obtain ⟨g, h1, h2⟩ := h
    exact ⟨g, cutR_lt h1 (by simpa [SC.lt] using hl), h2⟩
  | ifc t a l => cases a <;> (obtain ⟨x, h1, h2⟩ := h; exact ⟨x, h1, All2.cut (fun _ _ => SF.cut) hl h2⟩)
theorem SA.cut {x : SA} {v : Array Value} (hl : x.lt n = true) (h : x.ok R v) : x.ok (cutR R n) v := by
  cases x with
  | ls l => exact All2.cut (r := SC.ok R) (fun _ _ => SC.cut) hl h
  | pre l => exact ⟨All2.cut (r := SC.ok R) (fun _ _ => SC.cut) hl h.1, h.2⟩
  | op cs => exact h
  | pop cs => exact h
  | raw cs => exact h
theorem SA.cutM {x : SA} {v : Array Value} (hl : x.lt n = true) (h : x.okM R v) : x.okM (cutR R n) v := by
  cases x with
  | ls l => exact SA.cut (x := .ls l) hl h
  | pre l => exact SA.cut (x := .pre l) hl h
  | op cs => exact h
  | pop cs => exact h
  | raw cs => exact h
theorem S1.cut {x : S1} {v : Value} (hl : x.lt n = true) (h : x.ok R v) : x.ok (cutR R n) v := by
  cases x with
  | c x => exact SC.cut hl h
  | agg a => obtain ⟨cs, h1, h2⟩ := h; exact ⟨cs, h1, SA.cut hl h2⟩
theorem SV.cut {x : SV} {v : Value} (hl : x.lt n = true) (h : x.ok R v) : x.ok (cutR R n) v := by
  cases x with
  | s x => exact S1.cut hl h
  | tup l => obtain ⟨cs, h1, h2⟩ := h; exact ⟨cs, h1, All2.cut (fun _ _ => S1.cut) hl h2⟩
end

theorem onlyB_get {foot : List Nat} {n : Nat} {wr : Bool} : ∀ {l : List SBlk} {seen : List Nat} {i : Nat} {b : SBlk}, getB (onlyB foot n wr l seen) i = some b →
    i ∈ foot ∧ i ∉ seen ∧ ∃ c, getB l i = some c ∧ (Nat.blt c.id n && c.arr.lt n) = true ∧ b = ⟨c.id, c.arr, c.ty, c.wr && wr⟩
  | [], _, _, _, h => by cases h
  | c :: l, seen, i, b, h => by
    simp only [onlyB] at h
    have skip : ∀ {seen'}, (Nat.beq c.id i = true → i ∉ seen' → False) → (∀ x, x ∈ seen → x ∈ seen') → getB (onlyB foot n wr l seen') i = some b →
        (i ∈ foot → i ∉ seen' → Nat.beq c.id i = true → False) → i ∈ foot ∧ i ∉ seen ∧ ∃ d, getB (c :: l) i = some d ∧ (Nat.blt d.id n && d.arr.lt n) = true ∧ b = ⟨d.id, d.arr, d.ty, d.wr && wr⟩ := by
      intro seen' h1 h2 h3 _
      obtain ⟨k1, k2, d, k3, k4, k5⟩ := onlyB_get h3
      refine ⟨k1, fun hs => k2 (h2 _ hs), d, ?_, k4, k5⟩
      simp only [getB]
      rw [if_neg (fun e => h1 e k2)]
      exact k3
    split at h
    · rename_i h1 h2
      split at h
      · rename_i hlt
        by_cases e : Nat.beq c.id i = true
        · simp only [getB] at h
          rw [if_pos e] at h
          cases h
          have e' : c.id = i := by simpa using e
          subst e'
          refine ⟨memB_iff.1 h1, fun hs => ?_, c, by simp [getB], hlt, rfl⟩
          rw [memB_iff.2 hs] at h2
          cases h2
        · simp only [getB] at h
          rw [if_neg e] at h
          exact skip (seen' := c.id :: seen) (fun x => (e x).elim) (fun x hx => List.mem_cons_of_mem _ hx) h (fun _ _ x => e x)
      · refine skip (seen' := c.id :: seen) (fun x hx => ?_) (fun x hx => List.mem_cons_of_mem _ hx) h (fun _ hx x => ?_)
        · have e' : c.id = i := by simpa using x
          exact hx (e' ▸ List.mem_cons_self ..)
        · have e' : c.id = i := by simpa using x
          exact hx (e' ▸ List.mem_cons_self ..)
    · rename_i hne
      refine skip (seen' := seen) (fun x hx => ?_) (fun x hx => hx) h (fun h1 hx x => ?_)
      · have e' : c.id = i := by simpa using x
        obtain ⟨k1, k2, _⟩ := onlyB_get h
        refine hne (memB_iff.2 (e' ▸ k1)) ?_
        cases hm : memB seen c.id with
        | false => rfl
        | true => exact (k2 (e' ▸ memB_iff.1 hm)).elim
      · have e' : c.id = i := by simpa using x
        refine hne (memB_iff.2 (e' ▸ h1)) ?_
        cases hm : memB seen c.id with
        | false => rfl
        | true => exact (hx (e' ▸ memB_iff.1 hm)).elim
theorem newsB_get {n : Nat} : ∀ {l : List SBlk} {i : Nat} {b : SBlk}, getB (newsB n l) i = some b → n ≤ i ∧ getB l i = some b
  | [], _, _, h => by cases h
  | c :: l, i, b, h => by
    simp only [newsB] at h
    split at h
    · rename_i hn
      simp only [getB] at h ⊢
      split at h
      · rename_i e
        cases h
        have e' : c.id = i := by simpa using e
        rw [if_pos e]
        exact ⟨by simpa [e'] using hn, rfl⟩
      · rename_i e
        rw [if_neg e]
        exact newsB_get h
    · rename_i hn
      obtain ⟨h1, h2⟩ := newsB_get h
      refine ⟨h1, ?_⟩
      have : ¬ Nat.beq c.id i = true := by
        intro e
        have e' : c.id = i := by simpa using e
        subst e'
        exact hn (by simpa using h1)
      simp only [getB]
      rw [if_neg this]
      exact h2
theorem getB_append : ∀ (a b : List SBlk) (i : Nat), getB (a ++ b) i = match getB a i with | some x => some x | none => getB b i
  | [], b, i => by simp [getB]
  | c :: a, b, i => by
    simp only [List.cons_append, getB]
    split
    · rfl
    · exact getB_append a b i
theorem onlyT_get {keep : List Nat} {n : Nat} : ∀ {T : Tm} {i j : Nat}, nth (onlyT keep n i T) j = (nth T j).map fun x => match memB keep (i + j), x with
    | true, some v => if v.lt n then some v else none
    | _, _ => none
  | [], _, _ => rfl
  | x :: T, i, 0 => by simp [onlyT, nth]; rfl
  | x :: T, i, j + 1 => by
    simp only [onlyT, nth]
    rw [onlyT_get]
    have : i + 1 + j = i + (j + 1) := by omega
    rw [this]
theorem onlyT_len {keep : List Nat} {n : Nat} : ∀ (T : Tm) (i : Nat), (onlyT keep n i T).length = T.length
  | [], _ => rfl
  | _ :: T, i => by simp [onlyT, onlyT_len T (i + 1)]
theorem all2_of_nth {α β : Type} {r : α → β → Prop} : ∀ {l : List α} {m : List β}, l.length = m.length → (∀ i a b, nth l i = some a → m[i]? = some b → r a b) → All2 r l m
  | [], [], _, _ => trivial
  | a :: l, b :: m, h, hr => ⟨hr 0 a b rfl rfl, all2_of_nth (by simpa using h) fun i x y hx hy => hr (i + 1) x y hx (by simpa using hy)⟩
  | [], _ :: _, h, _ => by cases h
  | _ :: _, [], h, _ => by cases h

/-! What some of a row's changes make of what was there. -/
section over
variable {K V : Type} (init : K → V) (rec : Nat → K → Option V)
def stat (D : Nat → Bool) : Nat → K → V
  | 0, k => init k
  | i + 1, k => if D i then (rec i k).getD (stat D i k) else stat D i k
variable {init rec}
theorem stat_none {D : Nat → Bool} {k : K} {j : Nat} : ∀ {n : Nat}, j ≤ n → (∀ i, j ≤ i → i < n → D i = true → rec i k = none) → stat init rec D n k = stat init rec D j k
  | 0, h, _ => by
    obtain rfl : j = 0 := (by omega)
    rfl
  | n + 1, h, hn => by
    by_cases e : j = n + 1
    · rw [e]
    · rw [stat]
      have ih := stat_none (n := n) (show j ≤ n by omega) fun i h1 h2 => hn i h1 (by omega)
      split
      · rename_i hd
        rw [hn n (by omega) (by omega) hd, Option.getD_none, ih]
      · exact ih
theorem stat_same {D D' : Nat → Bool} {k : K} : ∀ {n : Nat}, (∀ i, i < n → rec i k ≠ none → D i = D' i) → stat init rec D n k = stat init rec D' n k
  | 0, _ => rfl
  | n + 1, h => by
    have ih := stat_same (n := n) fun i hi => h i (by omega)
    simp only [stat, ih]
    cases hr : rec n k with
    | none => cases D n <;> cases D' n <;> simp
    | some v => rw [h n (by omega) (by simp [hr])]
/-- What is there as it was in the text's order. -/
theorem stat_pre {D : Nat → Bool} {k : K} {j n : Nat} (hj : j ≤ n) (h1 : ∀ i, i < j → rec i k ≠ none → D i = true) (h2 : ∀ i, j ≤ i → i < n → D i = true → rec i k = none) :
    stat init rec D n k = stat init rec (fun _ => true) j k := by
  rw [stat_none hj h2]
  exact stat_same fun i hi hr => h1 i hi hr
/-- One change more. -/
theorem stat_put {D : Nat → Bool} {k : K} {j n : Nat} (hj : j < n) (hD : D j = false) (h : rec j k ≠ none → ∀ i, j < i → i < n → D i = true → rec i k = none) :
    stat init rec (fun i => i == j || D i) n k = (rec j k).getD (stat init rec D n k) := by
  cases hr : rec j k with
  | none =>
    rw [Option.getD_none]
    refine stat_same fun i _ hi => ?_
    by_cases e : i = j
    · subst e; exact (hi hr).elim
    · simp [e]
  | some v =>
    have h' := h (by simp [hr])
    rw [Option.getD_some, stat_none (j := j + 1) (by omega) fun i h1 h2 hd => h' i (by omega) h2 (by
      have : i ≠ j := by omega
      simpa [this] using hd)]
    simp [stat, hr]
end over
end Go.Proofs.YtahfhgdafobfmaaDoor
