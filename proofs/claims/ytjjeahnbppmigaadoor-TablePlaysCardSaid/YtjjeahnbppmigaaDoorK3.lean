/- Of rows, of values and their renamings; what an operand is. No condition. -/
import Derived.Test.YtjjeahnbppmigaaDoorK2
import Derived.Laws.CopyOwn
import Derived.Laws.Tables
import Derived.Laws.Rows
set_option linter.unusedVariables false
set_option linter.unusedSimpArgs false
namespace Go.Proofs.YtjjeahnbppmigaaDoor

section all2
variable {α β : Type} {r s : α → β → Prop}
theorem All2.len_eq : ∀ {l : List α} {m : List β}, All2 r l m → l.length = m.length
  | [], [], _ => rfl
  | _ :: _, _ :: _, h => by simp only [List.length_cons]; rw [All2.len_eq h.2]
  | [], _ :: _, h => h.elim
  | _ :: _, [], h => h.elim
theorem All2.mono (hrs : ∀ a b, r a b → s a b) : ∀ {l : List α} {m : List β}, All2 r l m → All2 s l m
  | [], [], _ => trivial
  | _ :: _, _ :: _, h => ⟨hrs _ _ h.1, All2.mono hrs h.2⟩
  | [], _ :: _, h => h.elim
  | _ :: _, [], h => h.elim
theorem nth_eq : ∀ (l : List α) (n : Nat), nth l n = l[n]?
  | [], _ => rfl
  | _ :: _, 0 => rfl
  | _ :: l, n + 1 => by rw [nth_succ, nth_eq l n, List.getElem?_cons_succ]
theorem len_eq : ∀ (l : List α), len l = l.length
  | [] => rfl
  | _ :: l => by rw [len_cons, len_eq l, List.length_cons]
theorem setN_eq : ∀ (l : List α) (n : Nat) (v : α), setN l n v = l.set n v
  | [], _, _ => rfl
  | _ :: _, 0, _ => rfl
  | _ :: l, n + 1, v => by simp only [setN, setN_eq l n v, List.set_cons_succ]
theorem takeN_eq {l : List α} {n : Nat} {m : List α} (h : takeN l n = some m) : m = l.take n ∧ n ≤ l.length := by
  unfold takeN at h
  split at h
  · rename_i hb
    cases h
    exact ⟨takeL_eq l n, by have := Nat.le_of_ble_eq_true hb; rwa [len_eq] at this⟩
  · cases h
theorem dropN_eq : ∀ (l : List α) (n : Nat), dropN l n = l.drop n
  | l, 0 => by cases l <;> rfl
  | [], _ + 1 => rfl
  | _ :: l, n + 1 => by
    show dropN l n = _
    rw [dropN_eq l n, List.drop_succ_cons]
theorem splice_eq {l v m : List α} {n : Nat} (h : splice l n v = some m) : m = l.take n ++ v ++ l.drop (n + v.length) ∧ n + v.length ≤ l.length := by
  unfold splice at h
  split at h
  · rename_i hb
    cases h
    have hb := Nat.le_of_ble_eq_true hb
    rw [len_eq, len_eq] at hb
    exact ⟨spliceL_eq v l n hb, hb⟩
  · cases h
theorem All2.nth : ∀ {l : List α} {m : List β} {n : Nat} {a : α}, All2 r l m → nth l n = some a → ∃ b, m[n]? = some b ∧ r a b
  | a :: _, b :: _, 0, _, h, e => by cases e; exact ⟨b, rfl, h.1⟩
  | _ :: l, _ :: m, n + 1, a, h, e => by
    obtain ⟨b, hb, hr⟩ := All2.nth h.2 (show Go.Proofs.YtjjeahnbppmigaaDoor.nth l n = some a from e)
    exact ⟨b, by simpa using hb, hr⟩
  | [], _, _, _, _, e => by cases e
  | _ :: _, [], _, _, h, _ => h.elim
theorem All2.at : ∀ {l : List α} {m : List β} {n : Nat} {a : α}, All2 r l m → l[n]? = some a → ∃ b, m[n]? = some b ∧ r a b := fun h e => h.nth (by rw [nth_eq]; exact e)
theorem All2.take : ∀ {l : List α} {m : List β} (n : Nat), All2 r l m → All2 r (l.take n) (m.take n)
  | [], [], n, _ => by simp [All2]
  | _ :: _, _ :: _, 0, _ => trivial
  | _ :: _, _ :: _, n + 1, h => ⟨h.1, h.2.take n⟩
  | [], _ :: _, _, h => h.elim
  | _ :: _, [], _, h => h.elim
theorem All2.drop : ∀ {l : List α} {m : List β} (n : Nat), All2 r l m → All2 r (l.drop n) (m.drop n)
  | [], [], n, _ => by simp [All2]
  | _ :: _, _ :: _, 0, h => h
  | _ :: _, _ :: _, n + 1, h => h.2.drop n
  | [], _ :: _, _, h => h.elim
  | _ :: _, [], _, h => h.elim
theorem All2.append : ∀ {l l' : List α} {m m' : List β}, All2 r l m → All2 r l' m' → All2 r (l ++ l') (m ++ m')
  | [], _, [], _, _, h => h
  | _ :: _, _, _ :: _, _, h, h' => ⟨h.1, h.2.append h'⟩
  | [], _, _ :: _, _, h, _ => h.elim
  | _ :: _, _, [], _, h, _ => h.elim
theorem All2.set : ∀ {l : List α} {m : List β} (n : Nat) {a : α} {b : β}, All2 r l m → r a b → All2 r (l.set n a) (m.set n b)
  | [], [], _, _, _, _, _ => trivial
  | _ :: _, _ :: _, 0, _, _, h, hr => ⟨hr, h.2⟩
  | _ :: _, _ :: _, n + 1, _, _, h, hr => ⟨h.1, h.2.set n hr⟩
  | [], _ :: _, _, _, _, h, _ => h.elim
  | _ :: _, [], _, _, _, h, _ => h.elim
theorem All2.map {γ : Type} {f : γ → α} : ∀ {l : List γ} {m : List β}, All2 (fun c b => r (f c) b) l m → All2 r (l.map f) m
  | [], [], _ => trivial
  | _ :: _, _ :: _, h => ⟨h.1, All2.map h.2⟩
  | [], _ :: _, h => h.elim
  | _ :: _, [], h => h.elim
theorem All2.all {p : β → Prop} (hr : ∀ a b, r a b → p b) : ∀ {l : List α} {m : List β}, All2 r l m → ∀ b ∈ m, p b
  | [], [], _, _, hb => by cases hb
  | _ :: _, _ :: _, h, b, hb => by
    rcases List.mem_cons.1 hb with rfl | hb
    · exact hr _ _ h.1
    · exact All2.all hr h.2 b hb
  | [], _ :: _, h, _, _ => h.elim
  | _ :: _, [], h, _, _ => h.elim
theorem All2.of_map {f : α → β} : ∀ (l : List α), (∀ a ∈ l, r a (f a)) → All2 r l (l.map f)
  | [], _ => trivial
  | a :: l, h => ⟨h a (List.mem_cons_self ..), All2.of_map l fun x hx => h x (List.mem_cons_of_mem _ hx)⟩
theorem All2.replicate {a : α} {b : β} (h : r a b) : ∀ n, All2 r (List.replicate n a) (List.replicate n b)
  | 0 => trivial
  | n + 1 => ⟨h, All2.replicate h n⟩
end all2

/-! More may be known of the renaming. -/
section ext
variable {R R' : Ren}
theorem Ext.refl (R : Ren) : Ext R R := fun _ _ h => h
theorem Ext.trans {A B C : Ren} (h : Ext A B) (k : Ext B C) : Ext A C := fun i g e => k i g (h i g e)
theorem SF.mono (h : Ext R R') : ∀ {x : SF} {v : Value}, x.ok R v → x.ok R' v := by
  intro x v hx
  cases x with
  | ptr id off => obtain ⟨g, h1, h2⟩ := hx; exact ⟨g, h _ _ h1, h2⟩
  | slice id off len cap => obtain ⟨g, c, h1, h2⟩ := hx; exact ⟨g, c, h _ _ h1, h2⟩
  | mp id => obtain ⟨g, h1, h2⟩ := hx; exact ⟨g, h _ _ h1, h2⟩
  | _ => exact hx
theorem SC.mono (h : Ext R R') {x : SC} {v : Value} (hx : x.ok R v) : x.ok R' v := by
  cases x with
  | f x => exact SF.mono h hx
  | fn g a b => obtain ⟨x, y, h1, h2, h3⟩ := hx; exact ⟨x, y, h1, h2.mono fun _ _ => SF.mono h, h3.mono fun _ _ => SF.mono h⟩
  | yl id => obtain ⟨g, h1, h2⟩ := hx; exact ⟨g, h _ _ h1, h2⟩
  | ifc t a l => cases a <;> (obtain ⟨x, h1, h2⟩ := hx; exact ⟨x, h1, h2.mono fun _ _ => SF.mono h⟩)
theorem SA.mono (h : Ext R R') {x : SA} {v : Array Value} (hx : x.ok R v) : x.ok R' v := by
  cases x with
  | ls l => exact hx.mono fun _ _ => SC.mono h
  | pre l => exact ⟨hx.1.mono fun _ _ => SC.mono h, hx.2⟩
  | op cs => exact hx
  | pop cs => exact hx
  | raw cs => exact hx
  | patch a o x => obtain ⟨⟨u, h1, h2⟩, h3⟩ := hx; exact ⟨⟨u, SF.mono h h1, h2⟩, h3⟩
theorem SA.okM_of {x : SA} {v : Array Value} {R : Ren} (hx : x.ok R v) : x.okM R v := by
  cases x with
  | raw cs => exact hx.elim
  | _ => exact hx
theorem SA.monoM (h : Ext R R') {x : SA} {v : Array Value} (hx : x.okM R v) : x.okM R' v := by
  cases x with
  | raw cs => exact hx
  | ls l => exact SA.mono h (x := .ls l) hx
  | pre l => exact SA.mono h (x := .pre l) hx
  | op cs => exact hx
  | pop cs => exact hx
  | patch a o x => exact SA.mono h (x := .patch a o x) hx
theorem S1.mono (h : Ext R R') {x : S1} {v : Value} (hx : x.ok R v) : x.ok R' v := by
  cases x with
  | c x => exact SC.mono h hx
  | agg a => obtain ⟨cs, h1, h2⟩ := hx; exact ⟨cs, h1, SA.mono h h2⟩
theorem SV.mono (h : Ext R R') {x : SV} {v : Value} (hx : x.ok R v) : x.ok R' v := by
  cases x with
  | s x => exact S1.mono h hx
  | tup l => obtain ⟨cs, h1, h2⟩ := hx; exact ⟨cs, h1, h2.mono fun _ _ => S1.mono h⟩
theorem TOk.mono (h : Ext R R') {x : Option SV} {v : Value} (hx : TOk R x v) : TOk R' x v := by
  cases x with
  | none => trivial
  | some x => exact SV.mono h hx
theorem TmOkA.mono (h : Ext R R') {T : Tm} {a : Array Value} (hx : TmOkA R T a) : TmOkA R' T a :=
  ⟨hx.1, fun i s hs => let ⟨v, h1, h2⟩ := hx.2 i s hs; ⟨v, h1, SV.mono h h2⟩⟩
theorem XO.mono (h : Ext R R') {x : XO} {o : Obj} (hx : x.ok R o) : x.ok R' o := by
  cases x with
  | loop st pend fn tm ps as b dl => obtain ⟨t, g, h1, h2, h3⟩ := hx; exact ⟨t, g, h _ _ h1, TmOkA.mono h h2, h3⟩
  | defr => exact hx
  | map es c => obtain ⟨l, h1, h2⟩ := hx; exact ⟨l, h1, h2.mono fun _ _ ⟨k1, k2, k3⟩ => ⟨SF.mono h k1, S1.mono h k2, k3⟩⟩
  | mapR es c => obtain ⟨l, h1, h2⟩ := hx; exact ⟨l, h1, h2.mono fun _ _ ⟨k1, k2, k3⟩ => ⟨SF.mono h k1, S1.mono h k2, k3⟩⟩
  | mapI w kk vk es => exact hx
  | mapE l c => exact hx
  | iter i s e l => obtain ⟨g, h1, h2⟩ := hx; exact ⟨g, h _ _ h1, h2⟩
theorem XO.not_cells {x : XO} {o : Obj} (hx : x.ok R o) {cs : Array Value} {ty : TypeId} {fz : Nat × Nat} (e : o = .cells cs ty fz) : False := by
  subst e
  cases x with
  | loop st pend fn tm ps as b dl => obtain ⟨t, g, _, _, h3⟩ := hx; cases h3
  | defr => cases hx
  | map es c => obtain ⟨l, h1, _⟩ := hx; cases h1
  | mapR es c => obtain ⟨l, h1, _⟩ := hx; cases h1
  | mapI w kk vk es => obtain ⟨l, c, h1, _⟩ := hx; cases h1
  | mapE l c => cases hx
  | iter i s e l => obtain ⟨g, _, h2⟩ := hx; cases h2
end ext

theorem SF.one {R : Ren} {x : SF} {v : Value} (h : x.ok R v) : v.oneCell' = true := by
  cases x with
  | int k n => have h' : v = _ := h; subst h'; rfl
  | bool b => have h' : v = _ := h; subst h'; rfl
  | ptr id off => obtain ⟨g, _, h2⟩ := h; subst h2; rfl
  | slice id off len cap => obtain ⟨g, c, _, h2, _⟩ := h; subst h2; rfl
  | lit u => obtain ⟨h1, h2⟩ := h; subst h1; exact h2
  | opq u => obtain ⟨h1, h2⟩ := h; subst h1; exact h2
  | gp g off => have h' : v = _ := h; subst h'; rfl
  | mp id => obtain ⟨g, _, h2⟩ := h; subst h2; rfl
  | e0 => obtain ⟨g, _, h2⟩ := h; subst h2; rfl
  | e00 => obtain ⟨_, h2⟩ := h; subst h2; rfl
  | e1 => obtain ⟨_, _, h2⟩ := h; subst h2; rfl
theorem SC.one {R : Ren} {x : SC} {v : Value} (h : x.ok R v) : v.oneCell' = true := by
  cases x with
  | f x => exact SF.one h
  | fn g a b => obtain ⟨_, _, h1, _⟩ := h; subst h1; rfl
  | yl id => obtain ⟨_, _, h1⟩ := h; subst h1; rfl
  | ifc t a l => cases a <;> (obtain ⟨_, h1, _⟩ := h; subst h1; rfl)
theorem SA.one {R : Ren} {x : SA} {cs : Array Value} (h : x.ok R cs) : ∀ v ∈ cs.toList, v.oneCell' = true := by
  cases x with
  | ls l => exact All2.all (r := SC.ok R) (fun _ _ => SC.one) h
  | pre l => exact h.2
  | op a => exact h.2
  | pop a => exact h.2
  | raw a => exact h.elim
  | patch a o x => exact h.2

/-! Constants, operands. -/
theorem ofVal_ok (R : Ren) {v : Value} (h : v.oneCell' = true) : (SC.ofVal v).ok R v := by
  cases v <;> first | rfl | exact ⟨rfl, h⟩
theorem allOne_mem : ∀ {l : List Value}, allOne l = true → ∀ v ∈ l, v.oneCell' = true
  | [], _, _, h => by cases h
  | a :: l, h, v, hv => by
    simp only [allOne, Bool.and_eq_true] at h
    rcases List.mem_cons.1 hv with rfl | hv
    · exact h.1
    · exact allOne_mem h.2 v hv
theorem ofVals_aux (R : Ren) : ∀ {l : List Value}, (∀ v ∈ l, v.oneCell' = true) → All2 (SC.ok R) (l.map SC.ofVal) l
  | [], _ => trivial
  | a :: _, h => ⟨ofVal_ok R (h a (List.mem_cons_self ..)), ofVals_aux R fun v hv => h v (List.mem_cons_of_mem _ hv)⟩
theorem ofVals_ok (R : Ren) {l : List Value} {a : SA} (h : ofVals l = some a) : a.ok R l.toArray := by
  unfold ofVals at h
  split at h
  · rename_i hl
    cases h
    exact ofVals_aux R (allOne_mem hl)
  · cases h
theorem SV.ofVal_ok (R : Ren) {v : Value} {x : SV} (h : SV.ofVal v = some x) : x.ok R v := by
  unfold SV.ofVal at h
  split at h
  · rename_i cs
    obtain ⟨a, ha, rfl⟩ := Option.map_eq_some_iff.1 h
    exact ⟨cs, rfl, by simpa using ofVals_ok R ha⟩
  · rename_i vs
    split at h
    · rename_i hl
      cases h
      exact ⟨vs, rfl, by rw [hl]; trivial⟩
    · cases h
  · rename_i h1 h2
    cases h
    refine Go.Proofs.YtjjeahnbppmigaaDoor.ofVal_ok R ?_
    cases v <;> first | rfl | exact (h1 _ rfl).elim | exact (h2 _ rfl).elim

/-! Rows with holes. -/
theorem beq_zero_f {n : Nat} (h : ¬ n = 0) : Nat.beq n 0 = false := by
  cases hb : Nat.beq n 0 with
  | true => exact (h (Nat.eq_of_beq_eq_true hb)).elim
  | false => rfl
theorem Tr.get_nil {α : Type} (j : Nat) : (Tr.nil : Tr α).get j = none := rfl
theorem Tr.get_zero {α : Type} (l r : Tr α) (v : Option α) : (Tr.node l v r).get 0 = v := rfl
theorem Tr.get_succ {α : Type} (l r : Tr α) (v : Option α) (k : Nat) : (Tr.node l v r).get (k + 1) = if k % 2 = 0 then l.get (k / 2) else r.get (k / 2) := by
  have e : (Tr.node l v r).get (k + 1) = match Nat.beq (k % 2) 0 with | true => l.get (k / 2) | false => r.get (k / 2) := by
    show Bool.rec (motive := fun _ => Option α) (r.get (k / 2)) (l.get (k / 2)) (Nat.beq (k % 2) 0) = _
    cases Nat.beq (k % 2) 0 <;> rfl
  rw [e]
  by_cases h : k % 2 = 0
  · rw [if_pos h, h]
  · rw [if_neg h, beq_zero_f h]
theorem Tr.get_setF {α : Type} (v : Option α) : ∀ (f : Nat) (t : Tr α) (i j : Nat), i < f → (Tr.setF v f t i).get j = if j = i then v else t.get j := by
  intro f
  induction f with
  | zero => intro t i j h; omega
  | succ f ih =>
    intro t i j h
    have key : ∀ (l : Tr α) (x : Option α) (r : Tr α) (k : Nat), i = k + 1 → (match Nat.beq (Nat.mod k 2) 0 with | true => Tr.node (Tr.setF v f l (Nat.div k 2)) x r | false => Tr.node l x (Tr.setF v f r (Nat.div k 2))).get j = if j = i then v else (Tr.node l x r).get j := by
      intro l x r k e
      subst e
      have e1 : Nat.mod k 2 = k % 2 := rfl
      have e2 : Nat.div k 2 = k / 2 := rfl
      rw [e1, e2]
      by_cases hk : k % 2 = 0
      · have : Nat.beq (k % 2) 0 = true := by simpa using hk
        rw [this]
        dsimp only
        cases j with
        | zero => rw [Tr.get_zero, Tr.get_zero, if_neg (by omega)]
        | succ j =>
          rw [Tr.get_succ, Tr.get_succ]
          by_cases hj : j % 2 = 0
          · rw [if_pos hj, if_pos hj, ih _ _ _ (by omega)]
            by_cases e : j = k
            · subst e; rw [if_pos rfl, if_pos rfl]
            · rw [if_neg (by omega), if_neg (by omega)]
          · rw [if_neg hj, if_neg hj, if_neg (by omega)]
      · rw [beq_zero_f hk]
        dsimp only
        cases j with
        | zero => rw [Tr.get_zero, Tr.get_zero, if_neg (by omega)]
        | succ j =>
          rw [Tr.get_succ, Tr.get_succ]
          by_cases hj : j % 2 = 0
          · rw [if_pos hj, if_pos hj, if_neg (by omega)]
          · rw [if_neg hj, if_neg hj, ih _ _ _ (by omega)]
            by_cases e : j = k
            · subst e; rw [if_pos rfl, if_pos rfl]
            · rw [if_neg (by omega), if_neg (by omega)]
    have knil : ∀ j, (Tr.node (Tr.nil : Tr α) none Tr.nil).get j = (Tr.nil : Tr α).get j := by
      intro j
      cases j with
      | zero => rw [Tr.get_zero, Tr.get_nil]
      | succ k => simp only [Tr.get_succ, Tr.get_nil, ite_self]
    cases t with
    | nil =>
      cases i with
      | zero =>
        cases j with
        | zero => rfl
        | succ j => rw [if_neg (by omega)]; show (Tr.node (Tr.nil : Tr α) v Tr.nil).get (j + 1) = _; simp only [Tr.get_succ, Tr.get_nil, ite_self]
      | succ k =>
        have := key .nil none .nil k rfl
        rw [knil] at this
        rw [← this]
        show (Bool.rec (motive := fun _ => Tr α) _ _ (Nat.beq (Nat.mod k 2) 0)).get j = _
        cases Nat.beq (Nat.mod k 2) 0 <;> rfl
    | node l x r =>
      cases i with
      | zero =>
        cases j with
        | zero => rfl
        | succ j => rw [if_neg (by omega)]; show (Tr.node l v r).get (j + 1) = _; simp only [Tr.get_succ]
      | succ k =>
        rw [← key l x r k rfl]
        show (Bool.rec (motive := fun _ => Tr α) _ _ (Nat.beq (Nat.mod k 2) 0)).get j = _
        cases Nat.beq (Nat.mod k 2) 0 <;> rfl
theorem Tr.get_set {α : Type} (t : Tr α) (i : Nat) (v : Option α) (j : Nat) : (t.set i v).get j = if j = i then v else t.get j := Tr.get_setF v (i + 1) t i j (by omega)
theorem Tm.get_set (T : Tm) (i : Nat) (x : Option SV) (j : Nat) : (T.set i x).get j = if j = i ∧ i < T.n then x else T.get j := by
  obtain ⟨n, d, t⟩ := T
  unfold Tm.set
  dsimp only
  by_cases h : i < n
  · have : Nat.blt i n = true := by simpa using h
    rw [this]
    unfold Tm.get
    dsimp only
    rw [Tr.get_set]
    by_cases e : j = i
    · rw [if_pos e, if_pos ⟨e, h⟩]
    · rw [if_neg e, if_neg (fun h => e h.1)]
  · have : Nat.blt i n = false := by
      cases hb : Nat.blt i n with
      | true => exact (h (by simpa using hb)).elim
      | false => rfl
    rw [this, if_neg (fun k => h k.2)]
theorem Tm.set_n (T : Tm) (i : Nat) (x : Option SV) : (T.set i x).n = T.n := by
  obtain ⟨n, d, t⟩ := T
  unfold Tm.set
  dsimp only
  split <;> rfl

def TmOk (R : Ren) (T : Tm) (a : Act) : Prop := TmOkA R T a.tmps
theorem TmOk.mono {R R' : Ren} (h : Ext R R') {T : Tm} {a : Act} (hx : TmOk R T a) : TmOk R' T a := TmOkA.mono h hx
theorem TmOkA.set {R : Ren} {T : Tm} {tmps : Array Value} (hT : TmOkA R T tmps) (d : Nat) {s : SV} {v : Value} (h : s.ok R v) : TmOkA R (T.set d (some s)) (tmps.setIfInBounds d v) := by
  refine ⟨by rw [Tm.set_n]; simpa using hT.1, fun i s' hs => ?_⟩
  rw [Tm.get_set] at hs
  split at hs
  · rename_i e
    obtain ⟨rfl, e2⟩ := e
    cases hs
    exact ⟨v, by rw [Array.getElem?_setIfInBounds_self_of_lt (by rw [hT.1]; exact e2)], h⟩
  · rename_i e
    obtain ⟨u, h1, h2⟩ := hT.2 i s' hs
    refine ⟨u, ?_, h2⟩
    by_cases e2 : d = i
    · subst e2
      have := (Array.getElem?_eq_some_iff.1 h1).1
      exact (e ⟨rfl, by rw [← hT.1]; exact this⟩).elim
    · rw [Array.getElem?_setIfInBounds_ne e2]
      exact h1
theorem TmOk.get {R : Ren} {T : Tm} {a : Act} (hT : TmOk R T a) {i : Nat} {s : SV} (h : T.get i = some s) : ∃ v, a.tmps[i]? = some v ∧ s.ok R v := hT.2 i s h
theorem ev_ok {R : Ren} {T : Tm} {a : Act} (hT : TmOk R T a) {x : Operand} {s : SV} (h : ev T x = some s) : s.ok R (a.eval x) := by
  cases x with
  | tmp t =>
    obtain ⟨v, hv, hr⟩ := hT.get h
    have e : a.eval (.tmp t) = v := by simp [Act.eval, hv]
    rw [e]
    exact hr
  | const v => exact SV.ofVal_ok R h
  | global g => cases h; rfl
  | func f =>
    simp only [ev, Option.some.injEq] at h
    subst h
    exact ⟨#[], #[], rfl, trivial, trivial⟩
theorem evs_ok {R : Ren} {T : Tm} {a : Act} (hT : TmOk R T a) : ∀ {l : List Operand} {s : List SV}, evs T l = some s → All2 (SV.ok R) s (l.map a.eval)
  | [], s, h => by simp [evs] at h; subst h; trivial
  | x :: l, s, h => by
    simp only [evs] at h
    split at h
    · rename_i v r hv hr
      cases h
      exact ⟨ev_ok hT hv, evs_ok hT hr⟩
    · cases h
theorem flats_ok {R : Ren} : ∀ {l : List SV} {s : List SF} {vs : List Value}, flats l = some s → All2 (SV.ok R) l vs → All2 (SF.ok R) s vs
  | [], _, vs, h, hv => by simp [flats] at h; subst h; cases vs <;> exact hv
  | .s (.c (.f x)) :: l, s, vs, h, hv => by
    simp only [flats, Option.map_eq_some_iff] at h
    obtain ⟨r, hr, rfl⟩ := h
    cases vs with
    | nil => exact hv.elim
    | cons v vs => exact ⟨hv.1, flats_ok hr hv.2⟩
  | .s (.c (.fn ..)) :: _, _, _, h, _ => by simp [flats] at h
  | .s (.agg _) :: _, _, _, h, _ => by simp [flats] at h
  | .tup _ :: _, _, _, h, _ => by simp [flats] at h
theorem TmOk.put {R : Ren} {T : Tm} {a : Act} (hT : TmOk R T a) (d : Option Tmp) {s : SV} {v : Value} (h : s.ok R v) : TmOk R (dstS T d s) (a.put d v) := by
  cases d with
  | none => exact hT
  | some d => exact TmOkA.set hT d h
theorem fillT_get : ∀ (l : List SV) (i : Nat) (t : Tr (Option SV)) (j : Nat), (fillT i l t).get j = if i ≤ j ∧ j < i + l.length then (l[j - i]?).map some else t.get j
  | [], i, t, j => by rw [fillT, if_neg (by simp only [List.length_nil]; omega)]
  | x :: l, i, t, j => by
    rw [fillT, fillT_get l, Tr.get_set]
    by_cases h : i + 1 ≤ j ∧ j < i + 1 + l.length
    · rw [if_pos h, if_pos (by simp only [List.length_cons]; omega)]
      have : j - i = (j - (i + 1)) + 1 := by omega
      rw [this, List.getElem?_cons_succ]
    · rw [if_neg h]
      by_cases e : j = i
      · subst e
        rw [if_pos rfl, if_pos (by simp only [List.length_cons]; omega)]
        simp
      · rw [if_neg e, if_neg (by simp only [List.length_cons]; omega)]
theorem TmOk.pad {R : Ren} {l : List SV} {args : Array Value} (n : Nat) (h : All2 (SV.ok R) l args.toList) : TmOk R (padN n l) { tmps := args ++ Array.replicate (n - args.size) undef, defers := [] } := by
  have e := h.len_eq
  simp only [Array.length_toList] at e
  have hn : (padN n l).n = Nat.max n args.size := by unfold padN; rw [len_eq, e]
  have hmax : Nat.max n args.size = max n args.size := rfl
  refine ⟨by rw [hn, hmax]; simp only [Array.size_append, Array.size_replicate]; omega, fun i s hs => ?_⟩
  unfold Tm.get at hs
  have ht : (padN n l).t.get i = if 0 ≤ i ∧ i < 0 + l.length then (l[i - 0]?).map some else (Tr.nil : Tr (Option SV)).get i := by unfold padN; exact fillT_get l 0 .nil i
  rw [ht] at hs
  by_cases hi : i < l.length
  · rw [if_pos (by omega), Nat.sub_zero, List.getElem?_eq_getElem hi] at hs
    simp only [Option.map_some, Option.some.injEq] at hs
    obtain ⟨v, h1, h2⟩ := h.at (List.getElem?_eq_getElem hi)
    rw [Array.getElem?_toList] at h1
    refine ⟨v, ?_, by rw [← hs]; exact h2⟩
    show (args ++ Array.replicate (n - args.size) undef)[i]? = some v
    rw [Array.getElem?_append_left (by omega)]
    exact h1
  · rw [if_neg (by omega), Tr.get_nil] at hs
    dsimp only at hs
    split at hs
    · rename_i hb
      rw [hn, hmax] at hb
      have hb : i < max n args.size := by simpa using hb
      have hd : (padN n l).d = some (.tup []) := rfl
      rw [hd] at hs
      cases hs
      refine ⟨undef, ?_, ⟨#[], rfl, trivial⟩⟩
      show (args ++ Array.replicate (n - args.size) undef)[i]? = some undef
      rw [Array.getElem?_append_right (by omega), Array.getElem?_replicate, if_pos (by omega)]
    · cases hs
end Go.Proofs.YtjjeahnbppmigaaDoor
