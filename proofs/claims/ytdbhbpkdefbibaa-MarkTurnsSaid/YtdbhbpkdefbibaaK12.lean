/- From states to states: what may be left out, and numbers changed; what a function answers. No condition. -/
import Derived.Test.YtdbhbpkdefbibaaK11
namespace Go.Proofs.Ytdbhbpkdefbibaa

/-- From this state on the function comes to an end, and what it leaves is as A says. -/
def Good (P : Program) (A : SV → SMem → Prop) (f : SFr) (m : SMem) : Prop :=
  ∀ (n0 : Nat) (F : Nat → Prop) (w0 ws w : World) (Rs R : Ren) (a : Act), TmOk R f.tm a → a.defers = [] → Rel n0 F w0 R m w → ExtN ws w f.base m.next Rs R → (∀ i g, Rs i = some g → i < f.base) →
    Leads P f.fn a f.todo w fun v w' => ∃ s m' R', A s m' ∧ ExtN ws w' f.base m'.next Rs R' ∧ Rel n0 F w0 R' m' w' ∧ s.ok R' v
theorem good_of {E : Env} {r : SFr → SMem → Tree} (hr : RunOk E r) {A : SV → SMem → Prop} {f : SFr} {m : SMem} (h : (r f m).sat A (Good E.P A)) : Good E.P A f m :=
  fun n0 F w0 ws w Rs R a hT hd hR hX hs => hr f m n0 F w0 ws w Rs R a A (Good E.P A) _ h hT hd hR hX hs
    (fun s m' R' _ _ h1 h2 h3 h4 => ⟨s, m', R', h1, h2, h3, h4⟩)
    (fun f' m' R' w' a' h1 h2 h3 h4 h5 h6 h7 => by
      have := h1 n0 F w0 ws w' Rs R' a' h6 h7 h5 (by rw [h3]; exact h4) (by rw [h3]; exact hs)
      rw [h2, h3] at this
      exact this)
theorem good_of_run {E : Env} (hE : EnvOk E) {A : SV → SMem → Prop} {f : SFr} {m : SMem} (n : Nat) (h : (run E n f m).sat A (Good E.P A)) : Good E.P A f m := good_of (run_ok hE n) h
/-- The same, which goes on. -/
def Env.go (E : Env) : Env := { E with halt := fun _ _ => false }
theorem EnvOk.go {E : Env} (h : EnvOk E) : EnvOk E.go := ⟨h.fns, h.con, h.mixed⟩
/-- The first step is done, wherever one stops else. -/
theorem good_past {E : Env} (hE : EnvOk E) {A : SV → SMem → Prop} {f : SFr} {m : SMem} (n : Nat) (h : (stepT E.go (run E n) f m f.todo).sat A (Good E.P A)) : Good E.P A f m :=
  good_of (E := E.go) (r := fun f m => stepT E.go (run E n) f m f.todo) (stepT_ok hE.go (r := run E n) (run_ok hE n) (draw_ok hE.go (run_ok hE n))) h
theorem Good.mono {P : Program} {A B : SV → SMem → Prop} {f : SFr} {m : SMem} (h : Good P A f m) (hm : ∀ s m', A s m' → B s m') : Good P B f m :=
  fun n0 F w0 ws w Rs R a h1 h2 h3 h4 h5 => (h n0 F w0 ws w Rs R a h1 h2 h3 h4 h5).mono fun _ _ ⟨s, m', R', k1, k2⟩ => ⟨s, m', R', hm _ _ k1, k2⟩
/-- A call, by the state that it begins with. -/
theorem answers_of_good {P : Program} {A : SV → SMem → Prop} {g : FuncId} {fn : Func} {c : Code} {l : List SV} {m : SMem} (hg : P.funcs[g]? = some fn) (hc : fn.body = some c)
    (h : Good P A ⟨g, padN fn.ntmps (l.map some), [.code c], m.next⟩ m) {n0 : Nat} {F : Nat → Prop} {w0 w : World} {R : Ren} {args : Array Value} (hl : All2 (SV.ok R) l args.toList) (hR : Rel n0 F w0 R m w) :
    Answers P g args w fun v w' => ∃ s m' R', A s m' ∧ ExtN w w' m.next m'.next R R' ∧ Rel n0 F w0 R' m' w' ∧ s.ok R' v :=
  Answers.of_leads hg hc (h n0 F w0 w w R R _ (TmOk.pad fn.ntmps hl) rfl hR (ExtN.refl _ _ _) hR.nx)

/-! What may be left out. -/
def look : List (Nat × Nat) → Nat → Option Nat
  | [], _ => none
  | (a, b) :: l, n => if Nat.beq a n then some b else look l n
def andO : Option (List Prop) → Option (List Prop) → Option (List Prop)
  | some a, some b => some (a ++ b)
  | _, _ => none
def SI.same : SI → SI → Option (List Prop)
  | .l a, .l b => if a = b then some [] else none
  | a, b => some [a.den = b.den]
def SN.same : SN → SN → Option (List Prop)
  | .l a, .l b => if a = b then some [] else none
  | a, b => some [a.den = b.den]
def SB.same : SB → SB → Option (List Prop)
  | .l a, .l b => if a = b then some [] else none
  | a, b => some [a.den = b.den]
def SK.same : SK → SK → Option (List Prop)
  | .any, _ => some []
  | .n a, .n b => a.same b
  | .full a, .full b => if a = b then some [] else none
  | _, _ => none
/-- The numbers' change: those below the function's own stay. -/
def ren (base : Nat) (π : List (Nat × Nat)) (i : Nat) : Option Nat := if Nat.blt i base then some i else look π i
def SF.same (r : Nat → Option Nat) : SF → SF → Option (List Prop)
  | .int k a, .int k' b => if k = k' then a.same b else none
  | .bool a, .bool b => a.same b
  | .ptr i a, .ptr j b => match r i with
    | some k => if Nat.beq k j then a.same b else none
    | none => none
  | .slice i a n c, .slice j b k d => match r i with
    | some l => if Nat.beq l j then andO (a.same b) (andO (n.same k) (c.same d)) else none
    | none => none
  | .lit a, .lit b => some [a = b]
  | .opq a, .opq b => some [a = b]
  | .opq a, .lit b => some [a = b]
  | _, _ => none
def sames {α : Type} (s : α → α → Option (List Prop)) : List α → List α → Option (List Prop)
  | [], [] => some []
  | a :: l, b :: m => andO (s a b) (sames s l m)
  | _, _ => none
/-- A beginning of what is known. -/
def samesP {α : Type} (s : α → α → Option (List Prop)) : List α → List α → Option (List Prop)
  | [], _ => some []
  | a :: l, b :: m => andO (s a b) (samesP s l m)
  | _, _ => none
def SC.same (r : Nat → Option Nat) : SC → SC → Option (List Prop)
  | .f a, .f b => a.same r b
  | .fn u a b, .fn w c d => andO (some [u = w]) (andO (sames (SF.same r) a c) (sames (SF.same r) b d))
  | _, _ => none
def SA.same (r : Nat → Option Nat) : SA → SA → Option (List Prop)
  | .ls a, .ls b => sames (SC.same r) a b
  | .pre a, .pre b => samesP (SC.same r) a b
  | .op a, .op b => some [a = b]
  | .pop a, .pop b => some [a = b]
  | .raw a, .raw b => some [a = b]
  | .op a, .ls b => match plains b with
    | some vs => some [a = vs.toArray]
    | none => none
  | .pop a, .pre b => match plains b with
    | some vs => some [a = vs.toArray]
    | none => none
  | _, _ => none
def S1.same (r : Nat → Option Nat) : S1 → S1 → Option (List Prop)
  | .c a, .c b => a.same r b
  | .agg a, .agg b => a.same r b
  | _, _ => none
def SV.same (r : Nat → Option Nat) : SV → SV → Option (List Prop)
  | .s a, .s b => a.same r b
  | .tup a, .tup b => sames (S1.same r) a b
  | _, _ => none
def sameT (r : Nat → Option Nat) : Tm → Tm → Option (List Prop)
  | [], [] => some []
  | none :: l, _ :: m => sameT r l m
  | some a :: l, some b :: m => andO (a.same r b) (sameT r l m)
  | _, _ => none
def sameM (r : Nat → Option Nat) (src : List SBlk) : List SBlk → Option (List Prop)
  | [] => some []
  | b :: l => match r b.id with
    | none => none
    | some j => match getB src j with
      | none => none
      | some c => if !b.wr || c.wr then andO (some [b.ty = c.ty]) (andO (b.arr.same r c.arr) (sameM r src l)) else none
def keysOk (base next : Nat) : List (Nat × Nat) → List Nat → Bool
  | [], _ => true
  | (a, b) :: l, seen => Nat.ble base a && Nat.blt a next && Nat.ble base b && !memB seen b && keysOk base next l (b :: seen)
/-- The second state shows all that the first one says. -/
def subS (π : List (Nat × Nat)) (f0 : SFr) (m0 : SMem) (f : SFr) (m : SMem) : Option (List Prop) :=
  if Nat.ble f.base m0.next && keysOk f.base m0.next π [] then andO (sameT (ren f.base π) f0.tm f.tm) (sameM (ren f.base π) m.bl m0.bl) else none

theorem andO_some {a b : Option (List Prop)} {q : List Prop} (h : andO a b = some q) : ∃ x y, a = some x ∧ b = some y ∧ q = x ++ y := by
  unfold andO at h
  split at h
  · cases h; exact ⟨_, _, rfl, rfl, rfl⟩
  · cases h
section
variable {q : List Prop}
theorem SI.same_ok {a b : SI} (h : a.same b = some q) (hq : ∀ p ∈ q, p) : a.den = b.den := by
  unfold SI.same at h
  split at h
  · split at h
    · rename_i e; rw [e]
    · cases h
  · cases h; exact hq _ (List.mem_singleton.2 rfl)
theorem SN.same_ok {a b : SN} (h : a.same b = some q) (hq : ∀ p ∈ q, p) : a.den = b.den := by
  unfold SN.same at h
  split at h
  · split at h
    · rename_i e; rw [e]
    · cases h
  · cases h; exact hq _ (List.mem_singleton.2 rfl)
theorem SB.same_ok {a b : SB} (h : a.same b = some q) (hq : ∀ p ∈ q, p) : a.den = b.den := by
  unfold SB.same at h
  split at h
  · split at h
    · rename_i e; rw [e]
    · cases h
  · cases h; exact hq _ (List.mem_singleton.2 rfl)
theorem SK.same_ok {a b : SK} (h : a.same b = some q) (hq : ∀ p ∈ q, p) {c n : Nat} (hb : b.ok c n) : a.ok c n := by
  unfold SK.same at h
  split at h
  · trivial
  · have := SN.same_ok h hq
    show c = _
    rw [this]
    exact hb
  · split at h
    · rename_i e; rw [e]; exact hb
    · cases h
  · cases h
variable {r : Nat → Option Nat} {R R0 : Ren}
theorem SF.same_ok (hr : ∀ i j, r i = some j → R0 i = R j) {a b : SF} (h : a.same r b = some q) (hq : ∀ p ∈ q, p) {v : Value} (hb : b.ok R v) : a.ok R0 v := by
  unfold SF.same at h
  split at h
  · split at h
    · rename_i e
      subst e
      have h1 := SI.same_ok h hq
      show v = _
      rw [h1]
      exact hb
    · cases h
  · have h1 := SB.same_ok h hq
    show v = _
    rw [h1]
    exact hb
  · split at h
    · rename_i k hk
      split at h
      · rename_i e
        have e' : k = _ := Nat.eq_of_beq_eq_true e
        obtain ⟨g, h1, h2⟩ := hb
        exact ⟨g, by rw [hr _ _ hk, e']; exact h1, by rw [SN.same_ok h hq]; exact h2⟩
      · cases h
    · cases h
  · split at h
    · rename_i k hk
      split at h
      · rename_i e
        have e' : k = _ := Nat.eq_of_beq_eq_true e
        obtain ⟨x, y, k1, k2, rfl⟩ := andO_some h
        obtain ⟨y1, y2, k3, k4, rfl⟩ := andO_some k2
        obtain ⟨g, c, h1, h2, h3, h4⟩ := hb
        have e1 := SN.same_ok k1 fun p hp => hq p (by simp [hp])
        have e2 := SN.same_ok k3 fun p hp => hq p (by simp [hp])
        exact ⟨g, c, by rw [hr _ _ hk, e']; exact h1, by rw [e1, e2]; exact h2, SK.same_ok k4 (fun p hp => hq p (by simp [hp])) h3, by rw [e2]; exact h4⟩
      · cases h
    · cases h
  · cases h
    have e := hq _ (List.mem_singleton.2 rfl)
    rw [e]
    exact hb
  · cases h
    have e := hq _ (List.mem_singleton.2 rfl)
    rw [e]
    exact hb
  · cases h
    have e := hq _ (List.mem_singleton.2 rfl)
    rw [e]
    exact hb
  · cases h
theorem sames_ok {α : Type} {s : α → α → Option (List Prop)} {o o' : α → Value → Prop} (hs : ∀ {a b q v}, s a b = some q → (∀ p ∈ q, p) → o' b v → o a v) {l : List α} : ∀ {m : List α} {q : List Prop} {vs : List Value}, sames s l m = some q → (∀ p ∈ q, p) → All2 o' m vs → All2 o l vs := by
  induction l with
  | nil =>
    intro m q vs h _ hv
    cases m with
    | nil => cases vs with
      | nil => trivial
      | cons v vs => exact hv.elim
    | cons b m => cases h
  | cons a l ih =>
    intro m q vs h hq hv
    cases m with
    | nil => cases h
    | cons b m =>
      cases vs with
      | nil => exact hv.elim
      | cons v vs =>
        obtain ⟨x, y, h1, h2, rfl⟩ := andO_some h
        exact ⟨hs h1 (fun p hp => hq p (List.mem_append_left _ hp)) hv.1, ih h2 (fun p hp => hq p (List.mem_append_right _ hp)) hv.2⟩
theorem samesP_ok {α : Type} {s : α → α → Option (List Prop)} {o o' : α → Value → Prop} (hs : ∀ {a b q v}, s a b = some q → (∀ p ∈ q, p) → o' b v → o a v) {l : List α} : ∀ {m : List α} {q : List Prop} {vs : List Value}, samesP s l m = some q → (∀ p ∈ q, p) → All2 o' m (vs.take m.length) → All2 o l (vs.take l.length) := by
  induction l with
  | nil => intro m q vs _ _ _; simp [All2]
  | cons a l ih =>
    intro m q vs h hq hv
    cases m with
    | nil => cases h
    | cons b m =>
      cases vs with
      | nil => simp [All2] at hv
      | cons v vs =>
        obtain ⟨x, y, h1, h2, rfl⟩ := andO_some h
        exact ⟨hs h1 (fun p hp => hq p (List.mem_append_left _ hp)) hv.1, ih h2 (fun p hp => hq p (List.mem_append_right _ hp)) hv.2⟩
theorem SC.same_ok (hr : ∀ i j, r i = some j → R0 i = R j) {a b : SC} {q : List Prop} {v : Value} (h : a.same r b = some q) (hq : ∀ p ∈ q, p) (hb : b.ok R v) : a.ok R0 v := by
  unfold SC.same at h
  split at h
  · exact SF.same_ok hr h hq hb
  · obtain ⟨x, y, h1, h2, rfl⟩ := andO_some h
    obtain ⟨y1, y2, h3, h4, rfl⟩ := andO_some h2
    cases h1
    obtain ⟨u, w, k1, k2, k3⟩ := hb
    refine ⟨u, w, ?_, sames_ok (o := SF.ok R0) (o' := SF.ok R) (fun h hq hb => SF.same_ok hr h hq hb) h3 (fun p hp => hq p (by simp [hp])) k2, sames_ok (o := SF.ok R0) (o' := SF.ok R) (fun h hq hb => SF.same_ok hr h hq hb) h4 (fun p hp => hq p (by simp [hp])) k3⟩
    rw [k1, hq (_ = _) (List.mem_append_left _ (List.mem_singleton.2 rfl))]
  · cases h
theorem SA.same_ok (hr : ∀ i j, r i = some j → R0 i = R j) {a b : SA} {q : List Prop} {v : Array Value} (h : a.same r b = some q) (hq : ∀ p ∈ q, p) (hb : b.ok R v) : a.ok R0 v := by
  unfold SA.same at h
  split at h
  · exact sames_ok (o := SC.ok R0) (o' := SC.ok R) (fun h hq hb => SC.same_ok hr h hq hb) h hq hb
  · exact ⟨samesP_ok (o := SC.ok R0) (o' := SC.ok R) (fun h hq hb => SC.same_ok hr h hq hb) h hq hb.1, hb.2⟩
  · cases h
    rw [hq _ (List.mem_singleton.2 rfl)]
    exact hb
  · cases h
    rw [hq _ (List.mem_singleton.2 rfl)]
    exact hb
  · exact hb.elim
  · split at h
    · rename_i vs hvs
      cases h
      rw [hq _ (List.mem_singleton.2 rfl)]
      have e := plains_ok hvs hb
      exact ⟨by rw [← e], SA.one hb⟩
    · cases h
  · split at h
    · rename_i vs hvs
      cases h
      rw [hq _ (List.mem_singleton.2 rfl)]
      have e := plains_ok hvs hb.1
      have e2 := hb.1.len_eq
      refine ⟨?_, hb.2⟩
      have e3 := congrArg List.length e
      rw [← e2] at e3
      show v.toList.take vs.toArray.size = vs
      rw [List.size_toArray, ← e3]
      exact e
    · cases h
  · cases h
theorem SA.same_okM (hr : ∀ i j, r i = some j → R0 i = R j) {a b : SA} {q : List Prop} {v : Array Value} (h : a.same r b = some q) (hq : ∀ p ∈ q, p) (hb : b.okM R v) : a.okM R0 v := by
  by_cases e : ∃ c, b = .raw c
  · obtain ⟨c, rfl⟩ := e
    unfold SA.same at h
    cases a with
    | raw d =>
      cases h
      obtain rfl : d = c := hq _ (List.mem_singleton.2 rfl)
      exact hb
    | _ => cases h
  · have hb' : b.ok R v := by
      cases b with
      | raw c => exact (e ⟨c, rfl⟩).elim
      | _ => exact hb
    exact SA.okM_of (SA.same_ok hr h hq hb')
theorem S1.same_ok (hr : ∀ i j, r i = some j → R0 i = R j) {a b : S1} {q : List Prop} {v : Value} (h : a.same r b = some q) (hq : ∀ p ∈ q, p) (hb : b.ok R v) : a.ok R0 v := by
  unfold S1.same at h
  split at h
  · exact SC.same_ok hr h hq hb
  · obtain ⟨cs, h1, h2⟩ := hb
    exact ⟨cs, h1, SA.same_ok hr h hq h2⟩
  · cases h
theorem SV.same_ok (hr : ∀ i j, r i = some j → R0 i = R j) {a b : SV} {q : List Prop} {v : Value} (h : a.same r b = some q) (hq : ∀ p ∈ q, p) (hb : b.ok R v) : a.ok R0 v := by
  unfold SV.same at h
  split at h
  · exact S1.same_ok hr h hq hb
  · obtain ⟨cs, h1, h2⟩ := hb
    exact ⟨cs, h1, sames_ok (o := S1.ok R0) (o' := S1.ok R) (fun h hq hb => S1.same_ok hr h hq hb) h hq h2⟩
  · cases h
theorem sameT_ok (hr : ∀ i j, r i = some j → R0 i = R j) {l : Tm} : ∀ {m : Tm} {q : List Prop} {vs : List Value}, sameT r l m = some q → (∀ p ∈ q, p) → All2 (TOk R) m vs → All2 (TOk R0) l vs := by
  induction l with
  | nil =>
    intro m q vs h _ hv
    cases m with
    | nil => cases vs with
      | nil => trivial
      | cons v vs => exact hv.elim
    | cons b m => cases h
  | cons a l ih =>
    intro m q vs h hq hv
    cases m with
    | nil => cases a <;> cases h
    | cons b m =>
      cases vs with
      | nil => exact hv.elim
      | cons v vs =>
        cases a with
        | none => exact ⟨trivial, ih h hq hv.2⟩
        | some a =>
          cases b with
          | none => cases h
          | some b =>
            obtain ⟨x, y, h1, h2, rfl⟩ := andO_some h
            exact ⟨SV.same_ok hr h1 (fun p hp => hq p (List.mem_append_left _ hp)) hv.1, ih h2 (fun p hp => hq p (List.mem_append_right _ hp)) hv.2⟩
theorem sameM_ok (hr : ∀ i j, r i = some j → R0 i = R j) {src : List SBlk} {l : List SBlk} : ∀ {q : List Prop}, sameM r src l = some q → (∀ p ∈ q, p) → ∀ i b, getB l i = some b → ∃ j c, r i = some j ∧ getB src j = some c ∧ b.ty = c.ty ∧ (b.wr = true → c.wr = true) ∧
    ∀ cs, c.arr.okM R cs → b.arr.okM R0 cs := by
  induction l with
  | nil => intro q _ _ i b hb; cases hb
  | cons d l ih =>
    intro q h hq i b hb
    simp only [sameM] at h
    split at h
    · cases h
    · rename_i j hj
      split at h
      · cases h
      · rename_i c hc
        split at h
        · rename_i hcond
          obtain ⟨x, y, h0, h12, rfl⟩ := andO_some h
          obtain ⟨y1, y2, h1, h2, rfl⟩ := andO_some h12
          cases h0
          simp only [getB] at hb
          split at hb
          · rename_i e
            have e' : d.id = i := by simpa using e
            cases hb
            subst e'
            simp only [Bool.or_eq_true] at hcond
            refine ⟨j, c, hj, hc, hq (_ = _) (by simp), fun hw => ?_, fun cs hcs => SA.same_okM hr h1 (fun p hp => hq p (by simp [hp])) hcs⟩
            rcases hcond with h3 | h3
            · rw [hw] at h3; cases h3
            · exact h3
          · exact ih h2 (fun p hp => hq p (by simp [hp])) i b hb
        · cases h
end

theorem keysOk_ok {base next : Nat} {π : List (Nat × Nat)} : ∀ {seen : List Nat}, keysOk base next π seen = true → (∀ i j, look π i = some j → base ≤ i ∧ i < next ∧ base ≤ j ∧ j ∉ seen) ∧ ∀ i k j, look π i = some j → look π k = some j → i = k := by
  induction π with
  | nil => intro seen _; exact ⟨fun i j h => (by cases h), fun i k j h => (by cases h)⟩
  | cons p π ih =>
    obtain ⟨a, b⟩ := p
    intro seen h
    simp only [keysOk, Bool.and_eq_true] at h
    obtain ⟨⟨⟨⟨h1, h2⟩, h3⟩, h4⟩, h5⟩ := h
    obtain ⟨k1, k2⟩ := ih h5
    have h1 := Nat.le_of_ble_eq_true h1
    have h2 : a < next := by simpa using h2
    have h3 := Nat.le_of_ble_eq_true h3
    have h4 : b ∉ seen := fun hb => by rw [memB_iff.2 hb] at h4; cases h4
    refine ⟨fun i j h => ?_, fun i k j hi hk => ?_⟩
    · simp only [look] at h
      split at h
      · rename_i e
        have e' : a = i := by simpa using e
        cases h
        exact ⟨by omega, by omega, h3, h4⟩
      · obtain ⟨l1, l2, l3, l4⟩ := k1 i j h
        exact ⟨l1, l2, l3, fun hj => l4 (List.mem_cons_of_mem _ hj)⟩
    · simp only [look] at hi hk
      split at hi <;> split at hk
      · rename_i e1 e2
        have e1' : a = i := by simpa using e1
        have e2' : a = k := by simpa using e2
        omega
      · cases hi
        exact ((k1 k _ hk).2.2.2 (List.mem_cons_self ..)).elim
      · cases hk
        exact ((k1 i _ hi).2.2.2 (List.mem_cons_self ..)).elim
      · exact k2 i k j hi hk

theorem Good.sub {P : Program} {A : SV → SMem → Prop} {f0 f : SFr} {m0 m : SMem} (π : List (Nat × Nat)) {q : List Prop} (h : subS π f0 m0 f m = some q) (hq : ∀ p ∈ q, p) (h1 : f0.fn = f.fn) (h2 : f0.todo = f.todo) (h3 : f0.base = f.base)
    (hg : Good P A f0 m0) : Good P A f m := by
  intro n0 F w0 ws w Rs R a hT hd hR hX hs
  unfold subS at h
  split at h
  case isFalse => cases h
  rename_i hc
  simp only [Bool.and_eq_true] at hc
  obtain ⟨hb, hk⟩ := hc
  have hb := Nat.le_of_ble_eq_true hb
  obtain ⟨k1, k2⟩ := keysOk_ok hk
  obtain ⟨x, y, hx, hy, rfl⟩ := andO_some h
  let R0 : Ren := fun i => match ren f.base π i with | some j => R j | none => none
  have hr : ∀ i j, ren f.base π i = some j → R0 i = R j := by
    intro i j e
    show (match ren f.base π i with | some j => R j | none => none) = _
    rw [e]
  have hcase : ∀ i g, R0 i = some g → (i < f.base ∧ R i = some g) ∨ (f.base ≤ i ∧ i < m0.next ∧ ∃ j, look π i = some j ∧ f.base ≤ j ∧ R j = some g) := by
    intro i g e
    replace e : (match ren f.base π i with | some j => R j | none => none) = some g := e
    unfold ren at e
    split at e
    · rename_i j hj
      split at hj
      · rename_i hlt
        cases hj
        exact .inl ⟨by simpa using hlt, e⟩
      · obtain ⟨l1, l2, l3, _⟩ := k1 i j hj
        exact .inr ⟨l1, l2, j, hj, l3, e⟩
    · cases e
  have hinj : ∀ i k j, ren f.base π i = some j → ren f.base π k = some j → i = k := by
    intro i k j hi hk
    unfold ren at hi hk
    split at hi <;> split at hk
    · cases hi; cases hk; rfl
    · rename_i e1 e2
      cases hi
      have := (k1 k _ hk).2.2.1
      have e1' : i < f.base := by simpa using e1
      omega
    · rename_i e1 e2
      cases hk
      have := (k1 i _ hi).2.2.1
      have e2' : k < f.base := by simpa using e2
      omega
    · exact k2 i k j hi hk
  have hM := sameM_ok (R := R) (R0 := R0) hr hy fun p hp => hq p (List.mem_append_right _ hp)
  have hT0 : TmOk R0 f0.tm a := sameT_ok hr hx (fun p hp => hq p (List.mem_append_left _ hp)) hT
  have hR0 : Rel n0 F w0 R0 m0 w := by
    refine ⟨fun i j g k b c hi hj hgk hb hc hw => ?_, fun i g hi => ?_, fun i g hi => ?_, fun i b hb => ?_, hR.base, hR.fr⟩
    · obtain ⟨i', b', e1, e2, _, e3, _⟩ := hM i b hb
      obtain ⟨j', c', e4, e5, _, e6, _⟩ := hM j c hc
      rw [hr _ _ e1] at hi
      rw [hr _ _ e4] at hj
      have := hR.inj i' j' g k b' c' hi hj hgk e2 e5 (hw.imp e3 e6)
      subst this
      exact hinj i j i' e1 e4
    · rcases hcase i g hi with ⟨_, h⟩ | ⟨_, _, j, _, _, h⟩
      · exact hR.lt _ _ h
      · exact hR.lt _ _ h
    · rcases hcase i g hi with ⟨h, _⟩ | ⟨_, h, _⟩
      · omega
      · exact h
    · obtain ⟨j, c, e1, e2, e3, e4, e5⟩ := hM i b hb
      obtain ⟨g, cs, fz, l1, l2, l3, l4, l5⟩ := hR.blk j c e2
      exact ⟨g, cs, fz, by rw [hr _ _ e1]; exact l1, by rw [e3]; exact l2, l3, e5 cs l4, fun hw => l5 (e4 hw)⟩
  have hX0 : ExtN ws w f0.base m0.next Rs R0 := by
    rw [h3]
    refine ⟨fun i g hi => ?_, fun i g hi => ?_, hX.2.2.1, hb⟩
    · have hlt := hs i g hi
      have : ren f.base π i = some i := by
        unfold ren
        rw [if_pos (by simpa using hlt)]
      rw [hr _ _ this]
      exact hX.1 i g hi
    · rcases hcase i g hi with ⟨h, h'⟩ | ⟨h, _, j, _, hj, h'⟩
      · rcases hX.2.1 i g h' with e | ⟨_, e⟩
        · exact .inl e
        · omega
      · rcases hX.2.1 j g h' with e | ⟨e, _⟩
        · have := hs j g e; omega
        · exact .inr ⟨e, h⟩
  have := hg n0 F w0 ws w Rs R0 a hT0 hd hR0 hX0 (by rw [h3]; exact hs)
  rw [h1, h2, h3] at this
  exact this
end Go.Proofs.Ytdbhbpkdefbibaa
