/- Of rows, of values and their renamings; what an operand is. No condition. -/
import Derived.Test.YtahfhgdafobfmaaDoorK2
import Derived.Laws.CopyOwn
import Derived.Laws.Tables
import Derived.Laws.Rows
namespace Go.Proofs.YtahfhgdafobfmaaDoor

section all2
variable {α β : Type} {r s : α → β → Prop}
theorem All2.len_eq : ∀ {l : List α} {m : List β}, All2 r l m → l.length = m.length
  | [], [], _ => rfl
  | _ :: _, _ :: _, h => by simp only [List.length_cons]; rw [All2.len_eq h.2]
  | [], _ :: _, h => h.elim
  | _ :: _, [], h => h.elim
theorem All2.mono (hrs : ∀ a b, r a b → s a b) : ∀ {l : List α} {m : List β}, All2 r l m → All2 s l m
  | [], [], _ => trivial
  | _ :: _, _ :: _, h => ⟨hrs _ _ h.1, All2.mono hrs h.2⟩
  | [], _ :: _, h => h.elim
  | _ :: _, [], h => h.elim
theorem nth_eq : ∀ (l : List α) (n : Nat), nth l n = l[n]?
  | [], _ => rfl
  | _ :: _, 0 => rfl
  | _ :: l, n + 1 => by simp only [nth, nth_eq l n, List.getElem?_cons_succ]
theorem len_eq : ∀ (l : List α), len l = l.length
  | [] => rfl
  | _ :: l => by simp only [len, len_eq l, List.length_cons]
theorem setN_eq : ∀ (l : List α) (n : Nat) (v : α), setN l n v = l.set n v
  | [], _, _ => rfl
  | _ :: _, 0, _ => rfl
  | _ :: l, n + 1, v => by simp only [setN, setN_eq l n v, List.set_cons_succ]
theorem takeN_eq : ∀ {l : List α} {n : Nat} {m : List α}, takeN l n = some m → m = l.take n ∧ n ≤ l.length
  | l, 0, m, h => by simp [takeN] at h; simp [h]
  | [], _ + 1, m, h => by simp [takeN] at h
  | a :: l, n + 1, m, h => by
    simp only [takeN, Option.map_eq_some_iff] at h
    obtain ⟨x, hx, rfl⟩ := h
    obtain ⟨rfl, h2⟩ := takeN_eq hx
    simpa using h2
theorem dropN_eq : ∀ (l : List α) (n : Nat), dropN l n = l.drop n
  | l, 0 => by cases l <;> rfl
  | [], _ + 1 => rfl
  | _ :: l, n + 1 => by simp only [dropN, dropN_eq l n, List.drop_succ_cons]
theorem over_eq : ∀ {v l m : List α}, over v l = some m → m = v ++ l.drop v.length ∧ v.length ≤ l.length
  | [], l, m, h => by simp [over] at h; simp [h]
  | _ :: _, [], m, h => by simp [over] at h
  | v :: vs, _ :: l, m, h => by
    simp only [over, Option.map_eq_some_iff] at h
    obtain ⟨x, hx, rfl⟩ := h
    obtain ⟨rfl, h2⟩ := over_eq hx
    simpa using h2
theorem splice_eq : ∀ {l v m : List α} {n : Nat}, splice l n v = some m → m = l.take n ++ v ++ l.drop (n + v.length) ∧ n + v.length ≤ l.length
  | l, v, m, 0, h => by
    have h' : over v l = some m := by cases l <;> exact h
    obtain ⟨h1, h2⟩ := over_eq h'
    simp [h1, h2]
  | [], v, m, n + 1, h => by simp [splice] at h
  | a :: l, v, m, n + 1, h => by
    simp only [splice, Option.map_eq_some_iff] at h
    obtain ⟨x, hx, rfl⟩ := h
    obtain ⟨rfl, h2⟩ := splice_eq hx
    have e : n + 1 + v.length = (n + v.length) + 1 := by omega
    rw [e]
    simp
    omega
theorem All2.nth : ∀ {l : List α} {m : List β} {n : Nat} {a : α}, All2 r l m → nth l n = some a → ∃ b, m[n]? = some b ∧ r a b
  | a :: _, b :: _, 0, _, h, e => by cases e; exact ⟨b, rfl, h.1⟩
  | _ :: l, _ :: m, n + 1, a, h, e => by
    obtain ⟨b, hb, hr⟩ := All2.nth h.2 (show Go.Proofs.YtahfhgdafobfmaaDoor.nth l n = some a from e)
    exact ⟨b, by simpa using hb, hr⟩
  | [], _, _, _, _, e => by cases e
  | _ :: _, [], _, _, h, _ => h.elim
theorem All2.at : ∀ {l : List α} {m : List β} {n : Nat} {a : α}, All2 r l m → l[n]? = some a → ∃ b, m[n]? = some b ∧ r a b := fun h e => h.nth (by rw [nth_eq]; exact e)
theorem All2.take : ∀ {l : List α} {m : List β} (n : Nat), All2 r l m → All2 r (l.take n) (m.take n)
  | [], [], n, _ => by simp [All2]
  | _ :: _, _ :: _, 0, _ => trivial
  | _ :: _, _ :: _, n + 1, h => ⟨h.1, h.2.take n⟩
  | [], _ :: _, _, h => h.elim
  | _ :: _, [], _, h => h.elim
theorem All2.drop : ∀ {l : List α} {m : List β} (n : Nat), All2 r l m → All2 r (l.drop n) (m.drop n)
  | [], [], n, _ => by simp [All2]
  | _ :: _, _ :: _, 0, h => h
  | _ :: _, _ :: _, n + 1, h => h.2.drop n
  | [], _ :: _, _, h => h.elim
  | _ :: _, [], _, h => h.elim
theorem All2.append : ∀ {l l' : List α} {m m' : List β}, All2 r l m → All2 r l' m' → All2 r (l ++ l') (m ++ m')
  | [], _, [], _, _, h => h
  | _ :: _, _, _ :: _, _, h, h' => ⟨h.1, h.2.append h'⟩
  | [], _, _ :: _, _, h, _ => h.elim
  | _ :: _, _, [], _, h, _ => h.elim
theorem All2.set : ∀ {l : List α} {m : List β} (n : Nat) {a : α} {b : β}, All2 r l m → r a b → All2 r (l.set n a) (m.set n b)
  | [], [], _, _, _, _, _ => trivial
  | _ :: _, _ :: _, 0, _, _, h, hr => ⟨hr, h.2⟩
  | _ :: _, _ :: _, n + 1, _, _, h, hr => ⟨h.1, h.2.set n hr⟩
  | [], _ :: _, _, _, _, h, _ => h.elim
  | _ :: _, [], _, _, _, h, _ => h.elim
theorem All2.map {γ : Type} {f : γ → α} : ∀ {l : List γ} {m : List β}, All2 (fun c b => r (f c) b) l m → All2 r (l.map f) m
  | [], [], _ => trivial
  | _ :: _, _ :: _, h => ⟨h.1, All2.map h.2⟩
  | [], _ :: _, h => h.elim
  | _ :: _, [], h => h.elim
theorem All2.all {p : β → Prop} (hr : ∀ a b, r a b → p b) : ∀ {l : List α} {m : List β}, All2 r l m → ∀ b ∈ m, p b
  | [], [], _, _, hb => by cases hb
  | _ :: _, _ :: _, h, b, hb => by
    rcases List.mem_cons.1 hb with rfl | hb
    · exact hr _ _ h.1
    · exact All2.all hr h.2 b hb
  | [], _ :: _, h, _, _ => h.elim
  | _ :: _, [], h, _, _ => h.elim
theorem All2.of_map {f : α → β} : ∀ (l : List α), (∀ a ∈ l, r a (f a)) → All2 r l (l.map f)
  | [], _ => trivial
  | a :: l, h => ⟨h a (List.mem_cons_self ..), All2.of_map l fun x hx => h x (List.mem_cons_of_mem _ hx)⟩
theorem All2.replicate {a : α} {b : β} (h : r a b) : ∀ n, All2 r (List.replicate n a) (List.replicate n b)
  | 0 => trivial
  | n + 1 => ⟨h, All2.replicate h n⟩
end all2

/-! More may be known of the renaming. -/
section ext
variable {R R' : Ren}
theorem Ext.refl (R : Ren) : Ext R R := fun _ _ h => h
theorem Ext.trans {A B C : Ren} (h : Ext A B) (k : Ext B C) : Ext A C := fun i g e => k i g (h i g e)
theorem SF.mono (h : Ext R R') : ∀ {x : SF} {v : Value}, x.ok R v → x.ok R' v := by
  intro x v hx
  cases x with
  | ptr id off => obtain ⟨g, h1, h2⟩ := hx; exact ⟨g, h _ _ h1, h2⟩
  | slice id off len cap => obtain ⟨g, c, h1, h2⟩ := hx; exact ⟨g, c, h _ _ h1, h2⟩
  | mp id => obtain ⟨g, h1, h2⟩ := hx; exact ⟨g, h _ _ h1, h2⟩
  | _ => exact hx
theorem SC.mono (h : Ext R R') {x : SC} {v : Value} (hx : x.ok R v) : x.ok R' v := by
  cases x with
  | f x => exact SF.mono h hx
  | fn g a b => obtain ⟨x, y, h1, h2, h3⟩ := hx; exact ⟨x, y, h1, h2.mono fun _ _ => SF.mono h, h3.mono fun _ _ => SF.mono h⟩
  | yl id => obtain ⟨g, h1, h2⟩ := hx; exact ⟨g, h _ _ h1, h2⟩
  | ifc t a l => cases a <;> (obtain ⟨x, h1, h2⟩ := hx; exact ⟨x, h1, h2.mono fun _ _ => SF.mono h⟩)
theorem SA.mono (h : Ext R R') {x : SA} {v : Array Value} (hx : x.ok R v) : x.ok R' v := by
  cases x with
  | ls l => exact hx.mono fun _ _ => SC.mono h
  | pre l => exact ⟨hx.1.mono fun _ _ => SC.mono h, hx.2⟩
  | op cs => exact hx
  | pop cs => exact hx
  | raw cs => exact hx
theorem SA.okM_of {x : SA} {v : Array Value} {R : Ren} (hx : x.ok R v) : x.okM R v := by
  cases x with
  | raw cs => exact hx.elim
  | _ => exact hx
theorem SA.monoM (h : Ext R R') {x : SA} {v : Array Value} (hx : x.okM R v) : x.okM R' v := by
  cases x with
  | raw cs => exact hx
  | ls l => exact SA.mono h (x := .ls l) hx
  | pre l => exact SA.mono h (x := .pre l) hx
  | op cs => exact hx
  | pop cs => exact hx
theorem S1.mono (h : Ext R R') {x : S1} {v : Value} (hx : x.ok R v) : x.ok R' v := by
  cases x with
  | c x => exact SC.mono h hx
  | agg a => obtain ⟨cs, h1, h2⟩ := hx; exact ⟨cs, h1, SA.mono h h2⟩
theorem SV.mono (h : Ext R R') {x : SV} {v : Value} (hx : x.ok R v) : x.ok R' v := by
  cases x with
  | s x => exact S1.mono h hx
  | tup l => obtain ⟨cs, h1, h2⟩ := hx; exact ⟨cs, h1, h2.mono fun _ _ => S1.mono h⟩
theorem TOk.mono (h : Ext R R') {x : Option SV} {v : Value} (hx : TOk R x v) : TOk R' x v := by
  cases x with
  | none => trivial
  | some x => exact SV.mono h hx
theorem XO.mono (h : Ext R R') {x : XO} {o : Obj} (hx : x.ok R o) : x.ok R' o := by
  cases x with
  | loop st pend fn tm ps as b dl => obtain ⟨t, g, h1, h2, h3⟩ := hx; exact ⟨t, g, h _ _ h1, h2.mono fun _ _ => TOk.mono h, h3⟩
  | defr => exact hx
  | map es c => obtain ⟨l, h1, h2⟩ := hx; exact ⟨l, h1, h2.mono fun _ _ ⟨k1, k2, k3⟩ => ⟨SF.mono h k1, S1.mono h k2, k3⟩⟩
theorem XO.not_cells {x : XO} {o : Obj} (hx : x.ok R o) {cs : Array Value} {ty : TypeId} {fz : Nat × Nat} (e : o = .cells cs ty fz) : False := by
  subst e
  cases x with
  | loop st pend fn tm ps as b dl => obtain ⟨t, g, _, _, h3⟩ := hx; cases h3
  | defr => cases hx
  | map es c => obtain ⟨l, h1, _⟩ := hx; cases h1
end ext

theorem SF.one {R : Ren} {x : SF} {v : Value} (h : x.ok R v) : v.oneCell' = true := by
  cases x with
  | int k n => have h' : v = _ := h; subst h'; rfl
  | bool b => have h' : v = _ := h; subst h'; rfl
  | ptr id off => obtain ⟨g, _, h2⟩ := h; subst h2; rfl
  | slice id off len cap => obtain ⟨g, c, _, h2, _⟩ := h; subst h2; rfl
  | lit u => obtain ⟨h1, h2⟩ := h; subst h1; exact h2
  | opq u => obtain ⟨h1, h2⟩ := h; subst h1; exact h2
  | gp g off => have h' : v = _ := h; subst h'; rfl
  | mp id => obtain ⟨g, _, h2⟩ := h; subst h2; rfl
theorem SC.one {R : Ren} {x : SC} {v : Value} (h : x.ok R v) : v.oneCell' = true := by
  cases x with
  | f x => exact SF.one h
  | fn g a b => obtain ⟨_, _, h1, _⟩ := h; subst h1; rfl
  | yl id => obtain ⟨_, _, h1⟩ := h; subst h1; rfl
  | ifc t a l => cases a <;> (obtain ⟨_, h1, _⟩ := h; subst h1; rfl)
theorem SA.one {R : Ren} {x : SA} {cs : Array Value} (h : x.ok R cs) : ∀ v ∈ cs.toList, v.oneCell' = true := by
  cases x with
  | ls l => exact All2.all (r := SC.ok R) (fun _ _ => SC.one) h
  | pre l => exact h.2
  | op a => exact h.2
  | pop a => exact h.2
  | raw a => exact h.elim

/-! Constants, operands. -/
theorem ofVal_ok (R : Ren) {v : Value} (h : v.oneCell' = true) : (SC.ofVal v).ok R v := by
  cases v <;> first | rfl | exact ⟨rfl, h⟩
theorem allOne_mem : ∀ {l : List Value}, allOne l = true → ∀ v ∈ l, v.oneCell' = true
  | [], _, _, h => by cases h
  | a :: l, h, v, hv => by
    simp only [allOne, Bool.and_eq_true] at h
    rcases List.mem_cons.1 hv with rfl | hv
    · exact h.1
    · exact allOne_mem h.2 v hv
theorem ofVals_aux (R : Ren) : ∀ {l : List Value}, (∀ v ∈ l, v.oneCell' = true) → All2 (SC.ok R) (l.map SC.ofVal) l
  | [], _ => trivial
  | a :: _, h => ⟨ofVal_ok R (h a (List.mem_cons_self ..)), ofVals_aux R fun v hv => h v (List.mem_cons_of_mem _ hv)⟩
theorem ofVals_ok (R : Ren) {l : List Value} {a : SA} (h : ofVals l = some a) : a.ok R l.toArray := by
  unfold ofVals at h
  split at h
  · rename_i hl
    cases h
    exact ofVals_aux R (allOne_mem hl)
  · cases h
theorem SV.ofVal_ok (R : Ren) {v : Value} {x : SV} (h : SV.ofVal v = some x) : x.ok R v := by
  unfold SV.ofVal at h
  split at h
  · rename_i cs
    obtain ⟨a, ha, rfl⟩ := Option.map_eq_some_iff.1 h
    exact ⟨cs, rfl, by simpa using ofVals_ok R ha⟩
  · rename_i vs
    split at h
    · rename_i hl
      cases h
      exact ⟨vs, rfl, by rw [hl]; trivial⟩
    · cases h
  · rename_i h1 h2
    cases h
    refine Go.Proofs.YtahfhgdafobfmaaDoor.ofVal_ok R ?_
    cases v <;> first | rfl | exact (h1 _ rfl).elim | exact (h2 _ rfl).elim

def TmOk (R : Ren) (T : Tm) (a : Act) : Prop := All2 (TOk R) T a.tmps.toList
theorem TmOk.mono {R R' : Ren} (h : Ext R R') {T : Tm} {a : Act} (hx : TmOk R T a) : TmOk R' T a := All2.mono (fun _ _ => TOk.mono h) hx
theorem ev_ok {R : Ren} {T : Tm} {a : Act} (hT : TmOk R T a) {x : Operand} {s : SV} (h : ev T x = some s) : s.ok R (a.eval x) := by
  cases x with
  | tmp t =>
    simp only [ev] at h
    split at h
    · rename_i y hy
      subst h
      obtain ⟨v, hv, hr⟩ := hT.nth hy
      have e : a.eval (.tmp t) = v := by simp [Act.eval, ← Array.getElem?_toList, hv]
      rw [e]
      exact hr
    · cases h
  | const v => exact SV.ofVal_ok R h
  | global g => cases h; rfl
  | func f =>
    simp only [ev, Option.some.injEq] at h
    subst h
    exact ⟨#[], #[], rfl, trivial, trivial⟩
theorem evs_ok {R : Ren} {T : Tm} {a : Act} (hT : TmOk R T a) : ∀ {l : List Operand} {s : List SV}, evs T l = some s → All2 (SV.ok R) s (l.map a.eval)
  | [], s, h => by simp [evs] at h; subst h; trivial
  | x :: l, s, h => by
    simp only [evs] at h
    split at h
    · rename_i v r hv hr
      cases h
      exact ⟨ev_ok hT hv, evs_ok hT hr⟩
    · cases h
theorem flats_ok {R : Ren} : ∀ {l : List SV} {s : List SF} {vs : List Value}, flats l = some s → All2 (SV.ok R) l vs → All2 (SF.ok R) s vs
  | [], _, vs, h, hv => by simp [flats] at h; subst h; cases vs <;> exact hv
  | .s (.c (.f x)) :: l, s, vs, h, hv => by
    simp only [flats, Option.map_eq_some_iff] at h
    obtain ⟨r, hr, rfl⟩ := h
    cases vs with
    | nil => exact hv.elim
    | cons v vs => exact ⟨hv.1, flats_ok hr hv.2⟩
  | .s (.c (.fn ..)) :: _, _, _, h, _ => by simp [flats] at h
  | .s (.agg _) :: _, _, _, h, _ => by simp [flats] at h
  | .tup _ :: _, _, _, h, _ => by simp [flats] at h
theorem TmOk.put {R : Ren} {T : Tm} {a : Act} (hT : TmOk R T a) (d : Option Tmp) {s : SV} {v : Value} (h : s.ok R v) : TmOk R (dstS T d s) (a.put d v) := by
  cases d with
  | none => exact hT
  | some d =>
    unfold TmOk dstS Act.put
    simp only [setN_eq, Array.toList_setIfInBounds]
    exact All2.set d hT h
theorem padN_eq : ∀ (n : Nat) (l : Tm), padN n l = l ++ List.replicate (n - l.length) (some (.tup []))
  | 0, l => by simp [padN]
  | n + 1, [] => by simp [padN, padN_eq n [], List.replicate_succ]
  | n + 1, a :: l => by simp [padN, padN_eq n l]
theorem TmOk.pad {R : Ren} {l : List SV} {args : Array Value} (n : Nat) (h : All2 (SV.ok R) l args.toList) : TmOk R (padN n (l.map some)) { tmps := args ++ Array.replicate (n - args.size) undef, defers := [] } := by
  unfold TmOk
  have e := h.len_eq
  rw [padN_eq]
  simp only [Array.toList_append, Array.toList_replicate, List.length_map, e, Array.length_toList]
  refine All2.append (All2.map (f := some) ?_) (All2.replicate ?_ _)
  · exact h
  · exact ⟨#[], rfl, trivial⟩
end Go.Proofs.YtahfhgdafobfmaaDoor
