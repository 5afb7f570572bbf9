/- From states to states: what may be left out, and numbers changed. No condition. -/
import Derived.Test.YtjjeahnbppmigaaDoorK12
set_option linter.unusedVariables false
set_option linter.unusedSimpArgs false
namespace Go.Proofs.YtjjeahnbppmigaaDoor
set_option linter.unusedSectionVars false
variable [Gh]
noncomputable section

omit [Gh] in
def look : List (Nat × Nat) → Nat → Option Nat
  | [], _ => none
  | (a, b) :: l, n => if Nat.beq a n then some b else look l n
omit [Gh] in
def andO : Option (List Prop) → Option (List Prop) → Option (List Prop)
  | some a, some b => some (a ++ b)
  | _, _ => none
omit [Gh] in
def SI.same : SI → SI → Option (List Prop)
  | .l a, .l b => if a = b then some [] else none
  | a, b => some [a.den = b.den]
omit [Gh] in
def SN.same : SN → SN → Option (List Prop)
  | .l a, .l b => if a = b then some [] else none
  | a, b => some [a.den = b.den]
omit [Gh] in
def SB.same : SB → SB → Option (List Prop)
  | .l a, .l b => if a = b then some [] else none
  | a, b => some [a.den = b.den]
omit [Gh] in
def SK.same : SK → SK → Option (List Prop)
  | .any, _ => some []
  | .n a, .n b => a.same b
  | .full a, .full b => if a = b then some [] else none
  | .cut a, .cut b => if a = b then some [] else none
  | .full a, .cut b => if a = b then some [] else none
  | .cut a, .full b => if a = b then some [] else none
  | _, _ => none
omit [Gh] in
def ren (base : Nat) (π : List (Nat × Nat)) (i : Nat) : Option Nat := if Nat.blt i base then some i else look π i
omit [Gh] in
def renIs (r : Nat → Option Nat) (i j : Nat) : Bool := match r i with | some k => Nat.beq k j | none => false
omit [Gh] in
def SF.same (r : Nat → Option Nat) : SF → SF → Option (List Prop)
  | .int k a, .int k' b => if k = k' then a.same b else none
  | .bool a, .bool b => a.same b
  | .ptr i a, .ptr j b => match renIs r i j with
    | true => a.same b
    | false => none
  | .slice i a n c, .slice j b k d => match renIs r i j with
    | true => andO (a.same b) (andO (n.same k) (c.same d))
    | false => none
  | .gp g a, .gp h b => if Nat.beq g h then a.same b else none
  | .mp i, .mp j => match renIs r i j with
    | true => some []
    | false => none
  | .lit a, .lit b => some [a = b]
  | .opq a, .opq b => some [a = b]
  | .opq a, .lit b => some [a = b]
  | .e0, .e0 => some []
  | .e00, .e00 => some []
  | .e0, .e00 => some []
  | .e0, .e1 => some []
  | .e1, .e1 => some []
  | .e0, .lit (.slice none 0 0) => some []
  | .e0, .slice _ _ (.l 0) _ => some []
  | _, _ => none
omit [Gh] in
def sames {α : Type} (s : α → α → Option (List Prop)) : List α → List α → Option (List Prop)
  | [], [] => some []
  | a :: l, b :: m => andO (s a b) (sames s l m)
  | _, _ => none
omit [Gh] in
def samesP {α : Type} (s : α → α → Option (List Prop)) : List α → List α → Option (List Prop)
  | [], _ => some []
  | a :: l, b :: m => andO (s a b) (samesP s l m)
  | _, _ => none
omit [Gh] in
def SC.same (r : Nat → Option Nat) : SC → SC → Option (List Prop)
  | .f a, .f b => a.same r b
  | .fn u a b, .fn w c d => andO (some [u = w]) (andO (sames (SF.same r) a c) (sames (SF.same r) b d))
  | .yl i, .yl j => match renIs r i j with
    | true => some []
    | false => none
  | .ifc t true a, .ifc u true b => if Nat.beq t u then sames (SF.same r) a b else none
  | .ifc t false a, .ifc u false b => if Nat.beq t u then sames (SF.same r) a b else none
  | _, _ => none
omit [Gh] in
def SA.same (r : Nat → Option Nat) : SA → SA → Option (List Prop)
  | .ls a, .ls b => sames (SC.same r) a b
  | .pre a, .pre b => samesP (SC.same r) a b
  | .op a, .op b => some [a = b]
  | .pop a, .pop b => some [a = b]
  | .raw a, .raw b => some [a = b]
  | .patch a o x, .patch b p y => andO (some [a = b, o = p]) (x.same r y)
  | .op a, .ls b => match plains b with
    | some vs => some [a = vs.toArray]
    | none => none
  | .pop a, .pre b => match plains b with
    | some vs => some [a = vs.toArray]
    | none => none
  | .pop a, .ls b => match plains b with
    | some vs => some [a = vs.toArray]
    | none => none
  | .ls a, .op b => match plains a with
    | some vs => some [b = vs.toArray]
    | none => none
  | _, _ => none
omit [Gh] in
def S1.same (r : Nat → Option Nat) : S1 → S1 → Option (List Prop)
  | .c a, .c b => a.same r b
  | .agg a, .agg b => a.same r b
  | _, _ => none
omit [Gh] in
def SV.same (r : Nat → Option Nat) : SV → SV → Option (List Prop)
  | .s a, .s b => a.same r b
  | .tup a, .tup b => sames (S1.same r) a b
  | _, _ => none
omit [Gh] in
def Tr.keys {α : Type} : Tr α → List Nat
  | .nil => []
  | .node l v r => (match v with | some _ => [0] | none => []) ++ (l.keys.map (fun j => 2 * j + 1) ++ r.keys.map fun j => 2 * j + 2)
omit [Gh] in
def andAll {α : Type} (s : α → Option (List Prop)) : List α → Option (List Prop)
  | [] => some []
  | a :: l => andO (s a) (andAll s l)
omit [Gh] in
def sameT1 (r : Nat → Option Nat) (a b : Tm) (i : Nat) : Option (List Prop) := match a.get i with
  | none => some []
  | some x => match b.get i with
    | some y => x.same r y
    | none => none
omit [Gh] in
def sameT (r : Nat → Option Nat) (a b : Tm) : Option (List Prop) :=
  match a.d with
  | some _ => none
  | none => if Nat.beq a.n b.n then andAll (sameT1 r a b) a.t.keys else none
omit [Gh] in
def sameB1 (r : Nat → Option Nat) (src l : Tr SBlk) (i : Nat) : Option (List Prop) := match getB l i with
  | none => some []
  | some b => match r i with
    | none => none
    | some j => match getB src j with
      | none => none
      | some c => if !b.wr || c.wr then andO (some [b.ty = c.ty]) (b.arr.same r c.arr) else none
omit [Gh] in
def sameE (r : Nat → Option Nat) (x y : SF × S1 × Nat) : Option (List Prop) := if Nat.beq x.2.2 y.2.2 then andO (x.1.same r y.1) (x.2.1.same r y.2.1) else none
omit [Gh] in
structure LoopP where
  st : LoopState
  pe : Option Code
  fn : FuncId
  ps : Array Tmp
  ag : Code
  bd : Code
omit [Gh] in
def EqL (a b : LoopP) : Prop := a = b
omit [Gh] in
def plainsE : List (SF × S1 × Nat) → Option (List (Value × Value))
  | [] => some []
  | (.int k n, .c (.f (.int k' x)), _) :: l => (plainsE l).map fun r => (.int k n.den, .int k' x.den) :: r
  | (.int k n, .c (.f (.bool x)), _) :: l => (plainsE l).map fun r => (.int k n.den, .bool x.den) :: r
  | _ => none
omit [Gh] in
def incrB (lo c : Nat) : List (SF × S1 × Nat) → Bool
  | [] => true
  | x :: l => Nat.ble lo x.2.2 && (Nat.blt x.2.2 c && incrB (x.2.2 + 1) c l)
omit [Gh] in
def XO.same (r : Nat → Option Nat) : XO → XO → Option (List Prop)
  | .loop st pe fn tm ps as bd dl, .loop st' pe' fn' tm' ps' as' bd' dl' => match renIs r dl dl' with
    | true => andO (some [EqL ⟨st, pe, fn, ps, as, bd⟩ ⟨st', pe', fn', ps', as', bd'⟩]) (sameT r tm tm')
    | false => none
  | .defr, .defr => some []
  | .map es c, .map es' c' => if Nat.beq c c' then sames (sameE r) es es' else none
  | .mapR es c, .map es' c' => if Nat.beq c c' then sames (sameE r) es es' else none
  | .mapR es c, .mapR es' c' => if Nat.beq c c' then sames (sameE r) es es' else none
  | .mapI w kk vk es, .mapI w' kk' vk' es' => if (!w || w') then some [kk = kk', vk = vk', es = es'] else none
  | .mapI _ kk vk es, .map es' c => match plainsE es', incrB 0 c es' with
    | some l, true => some [es.map (encE kk vk) = l]
    | _, _ => none
  | .mapE l c, .mapE l' c' => some [l = l', c = c']
  | .iter i s e l, .iter i' s' e' l' => match renIs r i i' with
    | true => some [s = s', e = e', l = l']
    | false => none
  | _, _ => none
omit [Gh] in
def sameX1 (r : Nat → Option Nat) (src : List XB) (b : XB) : Option (List Prop) := match r b.id with
  | none => none
  | some j => match getX src j with
    | none => none
    | some c => b.o.same r c
omit [Gh] in
def sameM (r : Nat → Option Nat) (m m0 : SMem) : Option (List Prop) :=
  andO (andAll (sameB1 r m.bl m0.bl) m0.bl.keys) (andAll (sameX1 r m.xs) m0.xs)
omit [Gh] in
def ItemOk (r : Nat → Option Nat) : SIt → SIt → Prop
  | .it a, .it b => a = b
  | .inR i, .inR j => renIs r i j = true
  | .endR i, .endR j => renIs r i j = true
  | _, _ => False
omit [Gh] in
def TodoOk (r : Nat → Option Nat) : List SIt → List SIt → Prop
  | [], [] => True
  | a :: l, b :: m => ItemOk r a b ∧ TodoOk r l m
  | _, _ => False
omit [Gh] in
def idsOk (r : Nat → Option Nat) : List SIt → Bool
  | [] => true
  | .it _ :: l => idsOk r l
  | .inR i :: l => renIs r i i && idsOk r l
  | .endR i :: l => renIs r i i && idsOk r l
omit [Gh] in
theorem TodoOk.same {r : Nat → Option Nat} : ∀ {l : List SIt}, idsOk r l = true → TodoOk r l l
  | [], _ => trivial
  | .it _ :: _, h => ⟨rfl, TodoOk.same h⟩
  | .inR _ :: _, h => by
    simp only [idsOk, Bool.and_eq_true] at h
    exact ⟨h.1, TodoOk.same h.2⟩
  | .endR _ :: _, h => by
    simp only [idsOk, Bool.and_eq_true] at h
    exact ⟨h.1, TodoOk.same h.2⟩
omit [Gh] in
def sameDf (r : Nat → Option Nat) : SDf → SDf → Option (List Prop)
  | .col i, .col j => match renIs r i j with
    | true => some []
    | false => none
  | .fn f l c, .fn g k d => if Nat.beq f g then andO (sames (SV.same r) l k) (sames (SF.same r) c d) else none
  | _, _ => none
omit [Gh] in
def samePan (r : Nat → Option Nat) (a b : SPan) : Option (List Prop) := if a.got = b.got then a.v.same r b.v else none
omit [Gh] in
def sameMd (r : Nat → Option Nat) : SMd → SMd → Option (List Prop)
  | .run, .run => some []
  | .ret, .ret => some []
  | .pan a, .pan b => sames (samePan r) a b
  | _, _ => none
omit [Gh] in
def sameR (r : Nat → Option Nat) : Option Nat → Option Nat → Bool
  | none, none => true
  | some i, some j => renIs r i j
  | _, _ => false
omit [Gh] in
def sameFr (r : Nat → Option Nat) (a b : SFr) : Option (List Prop) :=
  if Nat.beq a.fn b.fn && sameR r a.rnd b.rnd then andO (some [a.kind = b.kind, TodoOk r a.todo b.todo]) (andO (sameT r a.tm b.tm) (andO (sames (sameDf r) a.dfs b.dfs) (sameMd r a.md b.md))) else none
omit [Gh] in
def roB (m : SMem) (i : Nat) : Bool := match getB m.bl i, getX m.xs i with
  | some b, none => !b.wr
  | _, _ => false
omit [Gh] in
def okSeen (r : Bool) (b : Nat) : List (Nat × Bool) → Bool
  | [] => true
  | (c, r') :: l => (!Nat.beq b c || (r && r')) && okSeen r b l
omit [Gh] in
def keysOk (base next : Nat) (ro : Nat → Bool) : List (Nat × Nat) → List (Nat × Bool) → Bool
  | [], _ => true
  | (a, b) :: l, seen => Nat.ble base a && Nat.blt a next && Nat.ble base b && okSeen (ro a) b seen && keysOk base next ro l ((b, ro a) :: seen)
omit [Gh] in
def subS (base : Nat) (π : List (Nat × Nat)) (fs0 : List SFr) (m0 : SMem) (fs : List SFr) (m : SMem) : Option (List Prop) :=
  if Nat.ble base m0.next && keysOk base m0.next (roB m0) π [] then andO (sames (sameFr (ren base π)) fs0 fs) (sameM (ren base π) m m0) else none

omit [Gh] in
theorem andO_some {a b : Option (List Prop)} {q : List Prop} (h : andO a b = some q) : ∃ x y, a = some x ∧ b = some y ∧ q = x ++ y := by
  unfold andO at h
  split at h
  · cases h; exact ⟨_, _, rfl, rfl, rfl⟩
  · cases h
section
variable {q : List Prop}
omit [Gh] in
theorem SI.same_ok {a b : SI} (h : a.same b = some q) (hq : ∀ p ∈ q, p) : a.den = b.den := by
  unfold SI.same at h
  split at h
  · split at h
    · rename_i e; rw [e]
    · cases h
  · cases h; exact hq _ (List.mem_singleton.2 rfl)
omit [Gh] in
theorem SN.same_ok {a b : SN} (h : a.same b = some q) (hq : ∀ p ∈ q, p) : a.den = b.den := by
  unfold SN.same at h
  split at h
  · split at h
    · rename_i e; rw [e]
    · cases h
  · cases h; exact hq _ (List.mem_singleton.2 rfl)
omit [Gh] in
theorem SB.same_ok {a b : SB} (h : a.same b = some q) (hq : ∀ p ∈ q, p) : a.den = b.den := by
  unfold SB.same at h
  split at h
  · split at h
    · rename_i e; rw [e]
    · cases h
  · cases h; exact hq _ (List.mem_singleton.2 rfl)
omit [Gh] in
theorem SK.same_ok {a b : SK} (h : a.same b = some q) (hq : ∀ p ∈ q, p) {c n : Nat} (hb : b.ok c n) : a.ok c n := by
  unfold SK.same at h
  split at h
  · trivial
  · have := SN.same_ok h hq
    show c = _
    rw [this]
    exact hb
  · split at h
    · rename_i e; rw [e]; exact hb
    · cases h
  · split at h
    · rename_i e; rw [e]; exact hb
    · cases h
  · split at h
    · rename_i e; rw [e]; exact hb
    · cases h
  · split at h
    · rename_i e; rw [e]; exact hb
    · cases h
  · cases h
variable {r : Nat → Option Nat} {R R0 : Ren}
omit [Gh] in
theorem renIs_ok (hr : ∀ i j, r i = some j → R0 i = R j) {i j : Nat} (h : renIs r i j = true) : R0 i = R j := by
  unfold renIs at h
  split at h
  · rename_i k hk
    obtain rfl : k = j := Nat.eq_of_beq_eq_true h
    exact hr _ _ hk
  · cases h
omit [Gh] in
theorem SF.same_ok (hr : ∀ i j, r i = some j → R0 i = R j) {a b : SF} (h : a.same r b = some q) (hq : ∀ p ∈ q, p) {v : Value} (hb : b.ok R v) : a.ok R0 v := by
  unfold SF.same at h
  split at h
  · split at h
    · rename_i e
      subst e
      have h1 := SI.same_ok h hq
      show v = _
      rw [h1]
      exact hb
    · cases h
  · have h1 := SB.same_ok h hq
    show v = _
    rw [h1]
    exact hb
  · split at h
    · rename_i hk
      obtain ⟨g, h1, h2⟩ := hb
      exact ⟨g, by rw [renIs_ok hr hk]; exact h1, by rw [SN.same_ok h hq]; exact h2⟩
    · cases h
  · split at h
    · rename_i hk
      obtain ⟨x, y, k1, k2, rfl⟩ := andO_some h
      obtain ⟨y1, y2, k3, k4, rfl⟩ := andO_some k2
      obtain ⟨g, c, h1, h2, h3, h4⟩ := hb
      have e1 := SN.same_ok k1 fun p hp => hq p (by simp [hp])
      have e2 := SN.same_ok k3 fun p hp => hq p (by simp [hp])
      exact ⟨g, c, by rw [renIs_ok hr hk]; exact h1, by rw [e1, e2]; exact h2, SK.same_ok k4 (fun p hp => hq p (by simp [hp])) h3, by rw [e2]; exact h4⟩
    · cases h
  · split at h
    · rename_i e
      have e' := Nat.eq_of_beq_eq_true e
      subst e'
      show v = _
      rw [SN.same_ok h hq]
      exact hb
    · cases h
  · split at h
    · rename_i hk
      obtain ⟨g, h1, h2⟩ := hb
      exact ⟨g, by rw [renIs_ok hr hk]; exact h1, h2⟩
    · cases h
  · cases h
    have e := hq _ (List.mem_singleton.2 rfl)
    rw [e]
    exact hb
  · cases h
    have e := hq _ (List.mem_singleton.2 rfl)
    rw [e]
    exact hb
  · cases h
    have e := hq _ (List.mem_singleton.2 rfl)
    rw [e]
    exact hb
  · exact hb
  · exact hb
  · obtain ⟨_, h2⟩ := hb; exact ⟨_, _, h2⟩
  · obtain ⟨_, _, h2⟩ := hb; exact ⟨_, _, h2⟩
  · exact hb
  · exact ⟨_, _, hb.1⟩
  · obtain ⟨g, c, _, h2, _⟩ := hb
    exact ⟨_, _, h2⟩
  · cases h
omit [Gh] in
theorem sames_ok {α β : Type} {s : α → α → Option (List Prop)} {o o' : α → β → Prop} (hs : ∀ {a b q v}, s a b = some q → (∀ p ∈ q, p) → o' b v → o a v) {l : List α} : ∀ {m : List α} {q : List Prop} {vs : List β}, sames s l m = some q → (∀ p ∈ q, p) → All2 o' m vs → All2 o l vs := by
  induction l with
  | nil =>
    intro m q vs h _ hv
    cases m with
    | nil => cases vs with
      | nil => trivial
      | cons v vs => exact hv.elim
    | cons b m => cases h
  | cons a l ih =>
    intro m q vs h hq hv
    cases m with
    | nil => cases h
    | cons b m =>
      cases vs with
      | nil => exact hv.elim
      | cons v vs =>
        obtain ⟨x, y, h1, h2, rfl⟩ := andO_some h
        exact ⟨hs h1 (fun p hp => hq p (List.mem_append_left _ hp)) hv.1, ih h2 (fun p hp => hq p (List.mem_append_right _ hp)) hv.2⟩
omit [Gh] in
theorem samesP_ok {α : Type} {s : α → α → Option (List Prop)} {o o' : α → Value → Prop} (hs : ∀ {a b q v}, s a b = some q → (∀ p ∈ q, p) → o' b v → o a v) {l : List α} : ∀ {m : List α} {q : List Prop} {vs : List Value}, samesP s l m = some q → (∀ p ∈ q, p) → All2 o' m (vs.take m.length) → All2 o l (vs.take l.length) := by
  induction l with
  | nil => intro m q vs _ _ _; simp [All2]
  | cons a l ih =>
    intro m q vs h hq hv
    cases m with
    | nil => cases h
    | cons b m =>
      cases vs with
      | nil => simp [All2] at hv
      | cons v vs =>
        obtain ⟨x, y, h1, h2, rfl⟩ := andO_some h
        exact ⟨hs h1 (fun p hp => hq p (List.mem_append_left _ hp)) hv.1, ih h2 (fun p hp => hq p (List.mem_append_right _ hp)) hv.2⟩
omit [Gh] in
theorem SC.same_ok (hr : ∀ i j, r i = some j → R0 i = R j) {a b : SC} {q : List Prop} {v : Value} (h : a.same r b = some q) (hq : ∀ p ∈ q, p) (hb : b.ok R v) : a.ok R0 v := by
  unfold SC.same at h
  split at h
  · exact SF.same_ok hr h hq hb
  · obtain ⟨x, y, h1, h2, rfl⟩ := andO_some h
    obtain ⟨y1, y2, h3, h4, rfl⟩ := andO_some h2
    cases h1
    obtain ⟨u, w, k1, k2, k3⟩ := hb
    refine ⟨u, w, ?_, sames_ok (o := SF.ok R0) (o' := SF.ok R) (fun h hq hb => SF.same_ok hr h hq hb) h3 (fun p hp => hq p (by simp [hp])) k2, sames_ok (o := SF.ok R0) (o' := SF.ok R) (fun h hq hb => SF.same_ok hr h hq hb) h4 (fun p hp => hq p (by simp [hp])) k3⟩
    rw [k1, hq (_ = _) (List.mem_append_left _ (List.mem_singleton.2 rfl))]
  · split at h
    · rename_i hk
      obtain ⟨g, h1, h2⟩ := hb
      exact ⟨g, by rw [renIs_ok hr hk]; exact h1, h2⟩
    · cases h
  · split at h
    · rename_i e
      have e' := Nat.eq_of_beq_eq_true e
      subst e'
      obtain ⟨cs, h1, h2⟩ := hb
      exact ⟨cs, h1, sames_ok (o := SF.ok R0) (o' := SF.ok R) (fun h hq hb => SF.same_ok hr h hq hb) h hq h2⟩
    · cases h
  · split at h
    · rename_i e
      have e' := Nat.eq_of_beq_eq_true e
      subst e'
      obtain ⟨cs, h1, h2⟩ := hb
      exact ⟨cs, h1, sames_ok (o := SF.ok R0) (o' := SF.ok R) (fun h hq hb => SF.same_ok hr h hq hb) h hq h2⟩
    · cases h
  · cases h
omit [Gh] in
theorem plain_mk {c : SC} {v : Value} {R : Ren} (h : c.plain = some v) (h1 : v.oneCell' = true) : c.ok R v := by
  cases c with
  | f x => cases x <;> simp [SC.plain] at h <;> subst h <;> first | rfl | exact ⟨rfl, h1⟩
  | fn g a b => cases h
  | yl id => cases h
  | ifc t a l => cases h
omit [Gh] in
theorem plains_mk {R : Ren} : ∀ {l : List SC} {vs : List Value}, plains l = some vs → (∀ v ∈ vs, v.oneCell' = true) → All2 (SC.ok R) l vs
  | [], _, h, _ => by simp [plains] at h; subst h; trivial
  | c :: l, vs, h, h1 => by
    simp only [plains] at h
    split at h
    · rename_i v r hv hr
      cases h
      exact ⟨plain_mk hv (h1 _ List.mem_cons_self), plains_mk hr fun u hu => h1 u (List.mem_cons_of_mem _ hu)⟩
    · cases h
omit [Gh] in
theorem SA.same_ok (hr : ∀ i j, r i = some j → R0 i = R j) {a b : SA} {q : List Prop} {v : Array Value} (h : a.same r b = some q) (hq : ∀ p ∈ q, p) (hb : b.ok R v) : a.ok R0 v := by
  unfold SA.same at h
  split at h
  · exact sames_ok (o := SC.ok R0) (o' := SC.ok R) (fun h hq hb => SC.same_ok hr h hq hb) h hq hb
  · exact ⟨samesP_ok (o := SC.ok R0) (o' := SC.ok R) (fun h hq hb => SC.same_ok hr h hq hb) h hq hb.1, hb.2⟩
  · cases h
    rw [hq _ (List.mem_singleton.2 rfl)]
    exact hb
  · cases h
    rw [hq _ (List.mem_singleton.2 rfl)]
    exact hb
  · exact hb.elim
  · obtain ⟨x1, y1, hx, hy, rfl⟩ := andO_some h
    cases hx
    have e1 := hq _ (List.mem_append_left _ (List.mem_cons_self ..))
    have e2 := hq _ (List.mem_append_left _ (List.mem_cons_of_mem _ (List.mem_singleton.2 rfl)))
    subst e1 e2
    obtain ⟨⟨u, h1, h2⟩, h3⟩ := hb
    exact ⟨⟨u, SF.same_ok hr hy (fun p hp => hq p (List.mem_append_right _ hp)) h1, h2⟩, h3⟩
  · split at h
    · rename_i vs hvs
      cases h
      rw [hq _ (List.mem_singleton.2 rfl)]
      have e := plains_ok hvs hb
      exact ⟨by rw [← e], SA.one hb⟩
    · cases h
  · split at h
    · rename_i vs hvs
      cases h
      rw [hq _ (List.mem_singleton.2 rfl)]
      have e := plains_ok hvs hb.1
      have e2 := hb.1.len_eq
      refine ⟨?_, hb.2⟩
      have e3 := congrArg List.length e
      rw [← e2] at e3
      show v.toList.take vs.toArray.size = vs
      rw [List.size_toArray, ← e3]
      exact e
    · cases h
  · split at h
    · rename_i vs hvs
      cases h
      rw [hq _ (List.mem_singleton.2 rfl)]
      have e := plains_ok hvs hb
      refine ⟨?_, SA.one hb⟩
      show v.toList.take vs.toArray.size = vs
      rw [List.size_toArray, e, List.take_length]
    · cases h
  · split at h
    · rename_i l ds vs hvs
      cases h
      have e := hq _ (List.mem_singleton.2 rfl)
      obtain ⟨rfl, h1⟩ := hb
      subst e
      exact plains_mk hvs h1
    · cases h
  · cases h
omit [Gh] in
theorem SA.same_okM (hr : ∀ i j, r i = some j → R0 i = R j) {a b : SA} {q : List Prop} {v : Array Value} (h : a.same r b = some q) (hq : ∀ p ∈ q, p) (hb : b.okM R v) : a.okM R0 v := by
  by_cases e : ∃ c, b = .raw c
  · obtain ⟨c, rfl⟩ := e
    unfold SA.same at h
    cases a with
    | raw d =>
      cases h
      obtain rfl : d = c := hq _ (List.mem_singleton.2 rfl)
      exact hb
    | _ => cases h
  · have hb' : b.ok R v := by
      cases b with
      | raw c => exact (e ⟨c, rfl⟩).elim
      | _ => exact hb
    exact SA.okM_of (SA.same_ok hr h hq hb')
omit [Gh] in
theorem S1.same_ok (hr : ∀ i j, r i = some j → R0 i = R j) {a b : S1} {q : List Prop} {v : Value} (h : a.same r b = some q) (hq : ∀ p ∈ q, p) (hb : b.ok R v) : a.ok R0 v := by
  unfold S1.same at h
  split at h
  · exact SC.same_ok hr h hq hb
  · obtain ⟨cs, h1, h2⟩ := hb
    exact ⟨cs, h1, SA.same_ok hr h hq h2⟩
  · cases h
omit [Gh] in
theorem SV.same_ok (hr : ∀ i j, r i = some j → R0 i = R j) {a b : SV} {q : List Prop} {v : Value} (h : a.same r b = some q) (hq : ∀ p ∈ q, p) (hb : b.ok R v) : a.ok R0 v := by
  unfold SV.same at h
  split at h
  · exact S1.same_ok hr h hq hb
  · obtain ⟨cs, h1, h2⟩ := hb
    exact ⟨cs, h1, sames_ok (o := S1.ok R0) (o' := S1.ok R) (fun h hq hb => S1.same_ok hr h hq hb) h hq h2⟩
  · cases h
omit [Gh] in
theorem Tr.mem_keys {α : Type} : ∀ {t : Tr α} {i : Nat} {x : α}, t.get i = some x → i ∈ t.keys
  | .nil, i, x, h => by rw [Tr.get_nil] at h; cases h
  | .node l v r, 0, x, h => by
    have h : v = some x := h
    subst h
    simp [Tr.keys]
  | .node l v r, k + 1, x, h => by
    rw [Tr.get_succ] at h
    simp only [Tr.keys]
    refine List.mem_append_right _ ?_
    by_cases h0 : k % 2 = 0
    · rw [if_pos h0] at h
      refine List.mem_append_left _ (List.mem_map.2 ⟨_, Tr.mem_keys h, ?_⟩)
      show 2 * (k / 2) + 1 = k + 1
      omega
    · rw [if_neg h0] at h
      refine List.mem_append_right _ (List.mem_map.2 ⟨_, Tr.mem_keys h, ?_⟩)
      show 2 * (k / 2) + 2 = k + 1
      omega
omit [Gh] in
theorem andAll_ok {α : Type} {s : α → Option (List Prop)} : ∀ {l : List α} {q : List Prop}, andAll s l = some q → (∀ p ∈ q, p) → ∀ a ∈ l, ∃ q', s a = some q' ∧ ∀ p ∈ q', p
  | [], _, _, _, a, ha => by cases ha
  | b :: l, q, h, hq, a, ha => by
    obtain ⟨x, y, h1, h2, rfl⟩ := andO_some h
    rcases List.mem_cons.1 ha with rfl | ha
    · exact ⟨x, h1, fun p hp => hq p (List.mem_append_left _ hp)⟩
    · exact andAll_ok h2 (fun p hp => hq p (List.mem_append_right _ hp)) a ha
omit [Gh] in
theorem sameT_ok (hr : ∀ i j, r i = some j → R0 i = R j) {a b : Tm} {q : List Prop} {tmps : Array Value} (h : sameT r a b = some q) (hq : ∀ p ∈ q, p) (hb : TmOkA R b tmps) : TmOkA R0 a tmps := by
  unfold sameT at h
  split at h
  · cases h
  · rename_i hd
    split at h
    · rename_i e
      have e' := Nat.eq_of_beq_eq_true e
      refine ⟨hb.1.trans e'.symm, fun i s hs => ?_⟩
      have hk : i ∈ a.t.keys := by
        have hs' := hs
        unfold Tm.get at hs'
        split at hs'
        · rename_i x hx; exact Tr.mem_keys hx
        · rw [hd] at hs'
          split at hs' <;> cases hs'
      obtain ⟨q', h1, h2⟩ := andAll_ok h hq i hk
      unfold sameT1 at h1
      rw [hs] at h1
      dsimp only at h1
      split at h1
      · rename_i y hy
        obtain ⟨v, k1, k2⟩ := hb.2 i y hy
        exact ⟨v, k1, SV.same_ok hr h1 h2 k2⟩
      · cases h1
    · cases h
omit [Gh] in
theorem sameB_ok (hr : ∀ i j, r i = some j → R0 i = R j) {src l : Tr SBlk} {q : List Prop} (h : andAll (sameB1 r src l) l.keys = some q) (hq : ∀ p ∈ q, p) : ∀ i b, getB l i = some b → ∃ j c, r i = some j ∧ getB src j = some c ∧ b.ty = c.ty ∧ (b.wr = true → c.wr = true) ∧
    ∀ cs, c.arr.okM R cs → b.arr.okM R0 cs := by
  intro i b hb
  obtain ⟨q', h1, h2⟩ := andAll_ok h hq i (Tr.mem_keys hb)
  unfold sameB1 at h1
  rw [hb] at h1
  dsimp only at h1
  split at h1
  · cases h1
  · rename_i j hj
    split at h1
    · cases h1
    · rename_i c hc
      split at h1
      · rename_i hcond
        obtain ⟨x, y, k0, k1, rfl⟩ := andO_some h1
        cases k0
        simp only [Bool.or_eq_true] at hcond
        refine ⟨j, c, hj, hc, h2 (_ = _) (by simp), fun hw => ?_, fun cs hcs => SA.same_okM hr k1 (fun p hp => h2 p (by simp [hp])) hcs⟩
        rcases hcond with h3 | h3
        · rw [hw] at h3; cases h3
        · exact h3
      · cases h1
omit [Gh] in
theorem sameE_ok (hr : ∀ i j, r i = some j → R0 i = R j) {a b : SF × S1 × Nat} {q : List Prop} {v : MapEntry} (h : sameE r a b = some q) (hq : ∀ p ∈ q, p) (hb : EntryOk R b v) : EntryOk R0 a v := by
  unfold sameE at h
  split at h
  · rename_i e
    have e' := Nat.eq_of_beq_eq_true e
    obtain ⟨x, y, h1, h2, rfl⟩ := andO_some h
    exact ⟨SF.same_ok hr h1 (fun p hp => hq p (List.mem_append_left _ hp)) hb.1, S1.same_ok hr h2 (fun p hp => hq p (List.mem_append_right _ hp)) hb.2.1, hb.2.2.trans e'.symm⟩
  · cases h
omit [Gh] in
theorem plainsE_ok {R : Ren} : ∀ {es : List (SF × S1 × Nat)} {l : List (Value × Value)} {vs : List MapEntry}, plainsE es = some l → All2 (EntryOk R) es vs → (vs.map fun e => (e.key, e.val)) = l
  | [], _, [], h, _ => by cases h; rfl
  | [], _, _ :: _, _, h => h.elim
  | _ :: _, _, [], _, h => h.elim
  | e :: es, l, v :: vs, h, hv => by
    obtain ⟨⟨h1, h2, _⟩, h3⟩ := hv
    unfold plainsE at h
    split at h
    · rename_i e'
      cases e'
    · rename_i k n k' x b r e'
      cases e'
      obtain ⟨r', hr, rfl⟩ := Option.map_eq_some_iff.1 h
      have h1 : v.key = .int k n.den := h1
      have h2 : v.val = .int k' x.den := h2
      rw [List.map_cons, plainsE_ok hr h3, h1, h2]
    · rename_i k n x b r e'
      cases e'
      obtain ⟨r', hr, rfl⟩ := Option.map_eq_some_iff.1 h
      have h1 : v.key = .int k n.den := h1
      have h2 : v.val = .bool x.den := h2
      rw [List.map_cons, plainsE_ok hr h3, h1, h2]
    · cases h
omit [Gh] in
theorem incrB_ok {R : Ren} : ∀ {es : List (SF × S1 × Nat)} {l : List MapEntry} {lo c : Nat}, incrB lo c es = true → All2 (EntryOk R) es l → (∀ e ∈ l, lo ≤ e.born ∧ e.born < c) ∧ (l.map (·.born)).Nodup
  | [], [], _, _, _, _ => ⟨fun _ h => (by cases h), List.nodup_nil⟩
  | [], _ :: _, _, _, _, h => h.elim
  | _ :: _, [], _, _, _, h => h.elim
  | x :: es, e :: l, lo, c, h, ⟨⟨_, _, k⟩, h2⟩ => by
    unfold incrB at h
    simp only [Bool.and_eq_true] at h
    obtain ⟨h1, h3, h4⟩ := h
    have h1 := Nat.le_of_ble_eq_true h1
    have h3 : x.2.2 < c := by simpa using h3
    obtain ⟨k1, k2⟩ := incrB_ok h4 h2
    refine ⟨fun y hy => ?_, ?_⟩
    · rcases List.mem_cons.1 hy with rfl | hy
      · rw [k]; exact ⟨h1, h3⟩
      · have := k1 y hy; omega
    · rw [List.map_cons, List.nodup_cons]
      refine ⟨fun hm => ?_, k2⟩
      obtain ⟨y, hy, e1⟩ := List.mem_map.1 hm
      have := k1 y hy
      rw [e1, k] at this
      omega
omit [Gh] in
theorem XO.same_ok (hr : ∀ i j, r i = some j → R0 i = R j) {a b : XO} {q : List Prop} {o : Obj} (h : a.same r b = some q) (hq : ∀ p ∈ q, p) (hb : b.ok R o) : a.ok R0 o ∧ (a.own = true → b.own = true) := by
  unfold XO.same at h
  split at h
  · split at h
    · rename_i hk
      obtain ⟨x, y, h1, h2, rfl⟩ := andO_some h
      cases h1
      obtain ⟨tmps, g, k1, k2, k3⟩ := hb
      have e1 := hq (EqL _ _) (List.mem_append_left _ (List.mem_cons_self ..))
      unfold EqL at e1
      cases e1
      refine ⟨⟨tmps, g, by rw [renIs_ok hr hk]; exact k1, sameT_ok hr h2 (fun p hp => hq p (List.mem_append_right _ hp)) k2, ?_⟩, fun _ => rfl⟩
      exact k3
    · cases h
  · exact ⟨hb, id⟩
  · split at h
    · rename_i e
      obtain rfl := Nat.eq_of_beq_eq_true e
      obtain ⟨l, h1, h2⟩ := hb
      exact ⟨⟨l, h1, sames_ok (o := EntryOk R0) (o' := EntryOk R) (fun h hq hb => sameE_ok hr h hq hb) h hq h2⟩, id⟩
    · cases h
  · split at h
    · rename_i e
      obtain rfl := Nat.eq_of_beq_eq_true e
      obtain ⟨l, h1, h2⟩ := hb
      exact ⟨⟨l, h1, sames_ok (o := EntryOk R0) (o' := EntryOk R) (fun h hq hb => sameE_ok hr h hq hb) h hq h2⟩, fun h => by cases h⟩
    · cases h
  · split at h
    · rename_i e
      obtain rfl := Nat.eq_of_beq_eq_true e
      obtain ⟨l, h1, h2⟩ := hb
      exact ⟨⟨l, h1, sames_ok (o := EntryOk R0) (o' := EntryOk R) (fun h hq hb => sameE_ok hr h hq hb) h hq h2⟩, id⟩
    · cases h
  · split at h
    · rename_i w kk vk es w' kk' vk' es' hw
      cases h
      have e1 := hq (kk = kk') (by simp)
      have e2 := hq (vk = vk') (by simp)
      have e3 := hq (es = es') (by simp)
      subst e1; subst e2; subst e3
      exact ⟨hb, fun h => by
        have h : w = true := h
        rw [h] at hw
        show w' = true
        simpa using hw⟩
    · cases h
  · split at h
    · rename_i l hl hi
      cases h
      obtain ⟨a, h1, h2⟩ := hb
      refine ⟨⟨a, _, h1, ?_, ?_⟩, fun _ => rfl⟩
      · rw [hq _ (List.mem_singleton.2 rfl)]
        exact plainsE_ok hl h2
      · exact ⟨fun e he => ((incrB_ok hi h2).1 e he).2, (incrB_ok hi h2).2⟩
    · cases h
  · cases h
    have e1 := hq _ (List.mem_cons_self ..)
    have e2 := hq _ (List.mem_cons_of_mem _ (List.mem_cons_self ..))
    subst e1; subst e2
    exact ⟨hb, id⟩
  · split at h
    · rename_i hk
      cases h
      obtain ⟨g, k1, k2⟩ := hb
      have e1 := hq _ (List.mem_cons_self ..)
      have e2 := hq _ (List.mem_cons_of_mem _ (List.mem_cons_self ..))
      have e3 := hq _ (List.mem_cons_of_mem _ (List.mem_cons_of_mem _ (List.mem_cons_self ..)))
      subst e1; subst e2; subst e3
      exact ⟨⟨g, by rw [renIs_ok hr hk]; exact k1, k2⟩, id⟩
    · cases h
  · cases h
omit [Gh] in
theorem mem_getX : ∀ {l : List XB} {i : Nat} {x : XO}, getX l i = some x → (⟨i, x⟩ : XB) ∈ l
  | [], _, _, h => by cases h
  | b :: l, i, x, h => by
    simp only [getX] at h
    split at h
    · rename_i e
      obtain rfl := Nat.eq_of_beq_eq_true e
      cases h
      exact List.mem_cons_self ..
    · exact List.mem_cons_of_mem _ (mem_getX h)
omit [Gh] in
theorem sameX_ok (hr : ∀ i j, r i = some j → R0 i = R j) {src l : List XB} {q : List Prop} (h : andAll (sameX1 r src) l = some q) (hq : ∀ p ∈ q, p) : ∀ i x, getX l i = some x → ∃ j y, r i = some j ∧ getX src j = some y ∧ ∀ o, y.ok R o → x.ok R0 o ∧ (x.own = true → y.own = true) := by
  intro i x hx
  obtain ⟨q', h1, h2⟩ := andAll_ok h hq _ (mem_getX hx)
  unfold sameX1 at h1
  dsimp only at h1
  split at h1
  · cases h1
  · rename_i j hj
    split at h1
    · cases h1
    · rename_i y hy
      exact ⟨j, y, hj, hy, fun o ho => XO.same_ok hr h1 h2 ho⟩
omit [Gh] in
theorem ItemOk.ok (hr : ∀ i j, r i = some j → R0 i = R j) {a b : SIt} {v : Item} (h : ItemOk r a b) (hb : ItOk R b v) : ItOk R0 a v := by
  unfold ItemOk at h
  split at h
  · show v = _
    rw [h]
    exact hb
  · obtain ⟨g, h1, h2⟩ := hb
    exact ⟨g, by rw [renIs_ok hr h]; exact h1, h2⟩
  · obtain ⟨g, h1, h2⟩ := hb
    exact ⟨g, by rw [renIs_ok hr h]; exact h1, h2⟩
  · exact h.elim
omit [Gh] in
theorem TodoOk.ok (hr : ∀ i j, r i = some j → R0 i = R j) : ∀ {a b : List SIt} {v : List Item}, TodoOk r a b → All2 (ItOk R) b v → All2 (ItOk R0) a v
  | [], [], [], _, _ => trivial
  | _ :: _, _ :: _, _ :: _, h, hb => ⟨ItemOk.ok hr h.1 hb.1, TodoOk.ok hr h.2 hb.2⟩
  | [], [], _ :: _, _, hb => hb.elim
  | _ :: _, _ :: _, [], _, hb => hb.elim
  | [], _ :: _, _, h, _ => h.elim
  | _ :: _, [], _, h, _ => h.elim
omit [Gh] in
theorem sameDf_ok (hr : ∀ i j, r i = some j → R0 i = R j) {a b : SDf} {q : List Prop} {v : Deferred} (h : sameDf r a b = some q) (hq : ∀ p ∈ q, p) (hb : DfOk R b v) : DfOk R0 a v := by
  unfold sameDf at h
  split at h
  · split at h
    · rename_i hk
      obtain ⟨g, h1, h2⟩ := hb
      exact ⟨g, by rw [renIs_ok hr hk]; exact h1, h2⟩
    · cases h
  · split at h
    · rename_i e
      obtain rfl := Nat.eq_of_beq_eq_true e
      obtain ⟨x, y, h1, h2, rfl⟩ := andO_some h
      obtain ⟨args, caps, k1, k2, k3⟩ := hb
      exact ⟨args, caps, k1, sames_ok (o := SV.ok R0) (o' := SV.ok R) (fun h hq hb => SV.same_ok hr h hq hb) h1 (fun p hp => hq p (List.mem_append_left _ hp)) k2, sames_ok (o := SF.ok R0) (o' := SF.ok R) (fun h hq hb => SF.same_ok hr h hq hb) h2 (fun p hp => hq p (List.mem_append_right _ hp)) k3⟩
    · cases h
  · cases h
omit [Gh] in
theorem samePan_ok (hr : ∀ i j, r i = some j → R0 i = R j) {a b : SPan} {q : List Prop} {v : PanicEntry} (h : samePan r a b = some q) (hq : ∀ p ∈ q, p) (hb : PanOk R b v) : PanOk R0 a v := by
  unfold samePan at h
  split at h
  · rename_i e
    exact ⟨SC.same_ok hr h hq hb.1, hb.2.1.trans e.symm, hb.2.2⟩
  · cases h
omit [Gh] in
theorem sameMd_ok (hr : ∀ i j, r i = some j → R0 i = R j) {a b : SMd} {q : List Prop} {v : FrameMode} (h : sameMd r a b = some q) (hq : ∀ p ∈ q, p) (hb : MdOk R b v) : MdOk R0 a v := by
  unfold sameMd at h
  split at h
  · exact hb
  · exact hb
  · obtain ⟨ch, h1, h2⟩ := hb
    exact ⟨ch, h1, sames_ok (o := PanOk R0) (o' := PanOk R) (fun h hq hb => samePan_ok hr h hq hb) h hq h2⟩
  · cases h
omit [Gh] in
theorem sameFr_ok (hr : ∀ i j, r i = some j → R0 i = R j) {a b : SFr} {q : List Prop} {v : Frame} (h : sameFr r a b = some q) (hq : ∀ p ∈ q, p) (hb : FrOk R b v) : FrOk R0 a v := by
  unfold sameFr at h
  split at h
  · rename_i hc
    simp only [Bool.and_eq_true] at hc
    have e := Nat.eq_of_beq_eq_true hc.1
    obtain ⟨x1, y1, h1, h2, rfl⟩ := andO_some h
    obtain ⟨x2, y2, h3, h4, rfl⟩ := andO_some h2
    obtain ⟨x4, y4, h7, h8, rfl⟩ := andO_some h4
    cases h1
    have ek := hq (_ = _) (List.mem_append_left _ (List.mem_cons_self ..))
    have et := hq (TodoOk r _ _) (List.mem_append_left _ (List.mem_cons_of_mem _ (List.mem_cons_self ..)))
    refine ⟨hb.fn.trans e.symm, sameT_ok hr h3 (fun p hp => hq p (by simp [hp])) hb.tm, TodoOk.ok hr et hb.todo,
      sames_ok (o := DfOk R0) (o' := DfOk R) (fun h hq hb => sameDf_ok hr h hq hb) h7 (fun p hp => hq p (by simp [hp])) hb.dfs, sameMd_ok hr h8 (fun p hp => hq p (by simp [hp])) hb.md, hb.kind.trans ek.symm, ?_⟩
    have h9 := hc.2
    have hrn := hb.rnd
    unfold sameR at h9
    split at h9
    · rename_i e1 e2
      rw [e1]
      rw [e2] at hrn
      exact hrn
    · rename_i i j e1 e2
      rw [e1]
      rw [e2] at hrn
      obtain ⟨g, k1, k2⟩ := hrn
      exact ⟨g, by rw [renIs_ok hr h9]; exact k1, k2⟩
    · cases h9
  · cases h
omit [Gh] in
theorem sameFr_fn : ∀ {l m : List SFr} {q : List Prop}, sames (sameFr r) l m = some q → lastFn l = lastFn m
  | [], [], _, _ => rfl
  | [], _ :: _, _, h => by cases h
  | _ :: _, [], _, h => by cases h
  | a :: l, b :: m, q, h => by
    obtain ⟨x, y, h1, h2, rfl⟩ := andO_some h
    have ih := sameFr_fn h2
    have e : a.fn = b.fn := by
      unfold sameFr at h1
      split at h1
      · rename_i hc
        simp only [Bool.and_eq_true] at hc
        exact Nat.eq_of_beq_eq_true hc.1
      · cases h1
    cases l with
    | nil => cases m with
      | nil => exact e
      | cons _ _ => cases h2
    | cons _ _ => cases m with
      | nil => cases h2
      | cons _ _ => exact ih
end

omit [Gh] in
theorem okSeen_mem {r : Bool} {b : Nat} {r' : Bool} : ∀ {seen : List (Nat × Bool)}, okSeen r b seen = true → (b, r') ∈ seen → r = true ∧ r' = true
  | (c, u) :: l, h, hm => by
    simp only [okSeen, Bool.and_eq_true, Bool.or_eq_true] at h
    rcases List.mem_cons.1 hm with e | hm
    · cases e
      rcases h.1 with h1 | h1
      · simp at h1
      · exact h1
    · exact okSeen_mem h.2 hm
omit [Gh] in
theorem okSeen_tail {r : Bool} {b : Nat} {p : Nat × Bool} {seen : List (Nat × Bool)} (h : okSeen r b (p :: seen) = true) : okSeen r b seen = true := by
  obtain ⟨c, u⟩ := p
  simp only [okSeen, Bool.and_eq_true] at h
  exact h.2
omit [Gh] in
theorem keysOk_ok {base next : Nat} {ro : Nat → Bool} {π : List (Nat × Nat)} : ∀ {seen : List (Nat × Bool)}, keysOk base next ro π seen = true → (∀ i j, look π i = some j → base ≤ i ∧ i < next ∧ base ≤ j ∧ okSeen (ro i) j seen = true) ∧ ∀ i k j, look π i = some j → look π k = some j → i = k ∨ (ro i = true ∧ ro k = true) := by
  induction π with
  | nil => intro seen _; exact ⟨fun i j h => (by cases h), fun i k j h => (by cases h)⟩
  | cons p π ih =>
    obtain ⟨a, b⟩ := p
    intro seen h
    simp only [keysOk, Bool.and_eq_true] at h
    obtain ⟨⟨⟨⟨h1, h2⟩, h3⟩, h4⟩, h5⟩ := h
    obtain ⟨k1, k2⟩ := ih h5
    have h1 := Nat.le_of_ble_eq_true h1
    have h2 : a < next := by simpa using h2
    have h3 := Nat.le_of_ble_eq_true h3
    refine ⟨fun i j h => ?_, fun i k j hi hk => ?_⟩
    · simp only [look] at h
      split at h
      · rename_i e
        have e' : a = i := by simpa using e
        cases h
        subst e'
        exact ⟨by omega, by omega, h3, h4⟩
      · obtain ⟨l1, l2, l3, l4⟩ := k1 i j h
        exact ⟨l1, l2, l3, okSeen_tail l4⟩
    · simp only [look] at hi hk
      split at hi <;> split at hk
      · rename_i e1 e2
        have e1' : a = i := by simpa using e1
        have e2' : a = k := by simpa using e2
        exact .inl (by omega)
      · rename_i e1 e2
        have e1' : a = i := by simpa using e1
        cases hi
        subst e1'
        exact .inr (okSeen_mem (k1 k _ hk).2.2.2 (List.mem_cons_self ..)).symm
      · rename_i e1 e2
        have e2' : a = k := by simpa using e2
        cases hk
        subst e2'
        exact .inr (okSeen_mem (k1 i _ hi).2.2.2 (List.mem_cons_self ..))
      · exact k2 i k j hi hk
omit [Gh] in
theorem ren_inj {base next : Nat} {ro : Nat → Bool} {π : List (Nat × Nat)} (hk : keysOk base next ro π [] = true) : ∀ i k j, ren base π i = some j → ren base π k = some j → i = k ∨ (ro i = true ∧ ro k = true) := by
  obtain ⟨k1, k2⟩ := keysOk_ok hk
  intro i k j hi hk
  unfold ren at hi hk
  split at hi <;> split at hk
  · cases hi; cases hk; exact .inl rfl
  · rename_i e1 e2
    cases hi
    have := (k1 k _ hk).2.2.1
    have e1' : i < base := by simpa using e1
    omega
  · rename_i e1 e2
    cases hk
    have := (k1 i _ hi).2.2.1
    have e2' : k < base := by simpa using e2
    omega
  · exact k2 i k j hi hk
omit [Gh] in
theorem roB_wr {m : SMem} {i : Nat} {b : SBlk} (h : roB m i = true) (hb : getB m.bl i = some b) : b.wr = false := by
  unfold roB at h
  rw [hb] at h
  split at h
  · rename_i e _; cases e; simpa using h
  · cases h
omit [Gh] in
theorem roB_x {m : SMem} {i : Nat} {x : XO} (h : roB m i = true) (hx : getX m.xs i = some x) : False := by
  unfold roB at h
  rw [hx] at h
  split at h
  · rename_i e; cases e
  · cases h
omit [Gh] in
def renR (base : Nat) (π : List (Nat × Nat)) (R : Ren) : Ren := fun i => match ren base π i with | some j => R j | none => none
omit [Gh] in
theorem renR_ok {base : Nat} {π : List (Nat × Nat)} {R : Ren} {i j : Nat} (e : ren base π i = some j) : renR base π R i = R j := by
  unfold renR
  rw [e]
omit [Gh] in
theorem renR_case {base next : Nat} {ro : Nat → Bool} {π : List (Nat × Nat)} {R : Ren} (hk : keysOk base next ro π [] = true) {i : Nat} {g : Loc} (e : renR base π R i = some g) : (i < base ∧ R i = some g) ∨ (base ≤ i ∧ i < next ∧ ∃ j, look π i = some j ∧ base ≤ j ∧ R j = some g) := by
  obtain ⟨k1, _⟩ := keysOk_ok hk
  unfold renR ren at e
  split at e
  · rename_i j hj
    split at hj
    · rename_i hlt
      cases hj
      exact .inl ⟨by simpa using hlt, e⟩
    · obtain ⟨l1, l2, l3, _⟩ := k1 i j hj
      exact .inr ⟨l1, l2, j, hj, l3, e⟩
  · cases e
theorem Rel.sub {n0 : Nat} {F : Nat → Prop} {w0 ws w : World} {Rs R : Ren} {base : Nat} {π : List (Nat × Nat)} {m m0 : SMem} {q : List Prop} (hb : base ≤ m0.next) (hk : keysOk base m0.next (roB m0) π [] = true) (h : sameM (ren base π) m m0 = some q) (hq : ∀ p ∈ q, p)
    (hR : Rel n0 F w0 R m w) (hX : ExtN ws w base m.next Rs R) (hs : ∀ i g, Rs i = some g → i < base) : Rel n0 F w0 (renR base π R) m0 w ∧ ExtN ws w base m0.next Rs (renR base π R) := by
  have hr : ∀ i j, ren base π i = some j → renR base π R i = R j := fun i j e => renR_ok e
  have hinj := ren_inj hk
  obtain ⟨x, y, hx, hy, rfl⟩ := andO_some h
  have hM := sameB_ok (R := R) (R0 := renR base π R) hr hx fun p hp => hq p (List.mem_append_left _ hp)
  have hXm := sameX_ok (R := R) (R0 := renR base π R) hr hy fun p hp => hq p (List.mem_append_right _ hp)
  refine ⟨⟨fun i j g k b c hi hj hgk hb hc hw => ?_, fun i g hi => ?_, fun i g hi => ?_, fun i b hb => ?_, hR.base, hR.fr, fun i x hx => ?_, fun i j g h x y hi hj hg hx hy => ?_, hR.gl⟩, fun i g hi => ?_, fun i g hi => ?_, hX.2.2.1, hb⟩
  · obtain ⟨i', b', e1, e2, _, e3, _⟩ := hM i b hb
    obtain ⟨j', c', e4, e5, _, e6, _⟩ := hM j c hc
    rw [hr _ _ e1] at hi
    rw [hr _ _ e4] at hj
    have := hR.inj i' j' g k b' c' hi hj hgk e2 e5 (hw.imp e3 e6)
    subst this
    rcases hinj i j i' e1 e4 with e | ⟨r1, r2⟩
    · exact e
    · rw [roB_wr r1 hb, roB_wr r2 hc] at hw
      rcases hw with hw | hw <;> cases hw
  · rcases renR_case hk hi with ⟨_, h⟩ | ⟨_, _, j, _, _, h⟩
    · exact hR.lt _ _ h
    · exact hR.lt _ _ h
  · rcases renR_case hk hi with ⟨h, _⟩ | ⟨_, h, _⟩
    · omega
    · exact h
  · obtain ⟨j, c, e1, e2, e3, e4, e5⟩ := hM i b hb
    obtain ⟨g, cs, fz, l1, l2, l3, l4, l5⟩ := hR.blk j c e2
    exact ⟨g, cs, fz, by rw [hr _ _ e1]; exact l1, by rw [e3]; exact l2, l3, e5 cs l4, fun hw => l5 (e4 hw)⟩
  · obtain ⟨j, y, e1, e2, e3⟩ := hXm i x hx
    obtain ⟨g, o, l1, l2, l3, l4⟩ := hR.xo j y e2
    obtain ⟨e4, e5⟩ := e3 o l3
    exact ⟨g, o, by rw [hr _ _ e1]; exact l1, l2, e4, fun hw => l4 (e5 hw)⟩
  · obtain ⟨i', x', e1, e2, _⟩ := hXm i x hx
    obtain ⟨j', y', e4, e5, _⟩ := hXm j y hy
    rw [hr _ _ e1] at hi
    rw [hr _ _ e4] at hj
    have := hR.xi i' j' g h x' y' hi hj hg e2 e5
    subst this
    rcases hinj i j i' e1 e4 with e | ⟨r1, r2⟩
    · exact e
    · exact (roB_x r1 hx).elim
  · have hlt := hs i g hi
    have : ren base π i = some i := by
      unfold ren
      rw [if_pos (by simpa using hlt)]
    rw [hr _ _ this]
    exact hX.1 i g hi
  · rcases renR_case hk hi with ⟨h, h'⟩ | ⟨h, _, j, _, hj, h'⟩
    · rcases hX.2.1 i g h' with e | ⟨_, e⟩
      · exact .inl e
      · omega
    · rcases hX.2.1 j g h' with e | ⟨e, _⟩
      · have := hs j g e; omega
      · exact .inr ⟨e, h⟩
theorem Good.sub {P : Program} {A : SV → SMem → Prop} {base : Nat} {fs0 fs : List SFr} {m0 m : SMem} (π : List (Nat × Nat)) {q : List Prop} (h : subS base π fs0 m0 fs m = some q) (hq : ∀ p ∈ q, p) (hg : Good P A base fs0 m0) : Good P A base fs m := by
  intro n0 F w0 ws w Rs R fr frs hf hR hX hs
  unfold subS at h
  split at h
  case isFalse => cases h
  rename_i hc
  simp only [Bool.and_eq_true] at hc
  obtain ⟨hb, hk⟩ := hc
  have hb := Nat.le_of_ble_eq_true hb
  obtain ⟨x, y, hx, hy, rfl⟩ := andO_some h
  obtain ⟨h1, h2⟩ := Rel.sub hb hk hy (fun p hp => hq p (List.mem_append_right _ hp)) hR hX hs
  have h3 : All2 (FrOk (renR base π R)) fs0 (fr :: frs) := sames_ok (o := FrOk (renR base π R)) (o' := FrOk R) (fun h hq hb => sameFr_ok (fun i j e => renR_ok e) h hq hb) hx (fun p hp => hq p (List.mem_append_left _ hp)) hf
  have := hg n0 F w0 ws w Rs _ fr frs h3 h1 h2 hs
  rw [sameFr_fn hx] at this
  exact this

omit [Gh] in
def allP : List Prop → Prop
  | [] => True
  | p :: l => p ∧ allP l
omit [Gh] in
theorem allP_iff : ∀ {l : List Prop}, allP l → ∀ p ∈ l, p
  | [], _, p, hp => by cases hp
  | a :: l, h, p, hp => by
    rcases List.mem_cons.1 hp with rfl | hp
    · exact h.1
    · exact allP_iff h.2 p hp
omit [Gh] in
def Tree.vc (A : SV → SMem → Prop) (B : List SFr → SMem → Prop) : Tree → Prop
  | .ret v m => A v m
  | .br b t e => (b = true → t.vc A B) ∧ (b = false → e.vc A B)
  | .need q t => allP q ∧ t.vc A B
  | .stop f m => B f m
  | .fail _ => False
omit [Gh] in
theorem Tree.sat_of_vc {A A' : SV → SMem → Prop} {B B' : List SFr → SMem → Prop} (hA : ∀ v m, A v m → A' v m) (hB : ∀ f m, B f m → B' f m) : ∀ {t : Tree}, t.vc A B → t.sat A' B'
  | .ret _ _, h => hA _ _ h
  | .br _ _ _, h => ⟨fun e => Tree.sat_of_vc hA hB (h.1 e), fun e => Tree.sat_of_vc hA hB (h.2 e)⟩
  | .need _ _, h => ⟨allP_iff h.1, Tree.sat_of_vc hA hB h.2⟩
  | .stop _ _, h => hB _ _ h
  | .fail _, h => h.elim
omit [Gh] in
def Tree.vcT (A : SV → SMem → Prop) (B : List SFr → SMem → Prop) : Tree → Prop
  | .br b t _ => b = true ∧ t.vc A B
  | _ => False
omit [Gh] in
def Tree.vcE (A : SV → SMem → Prop) (B : List SFr → SMem → Prop) : Tree → Prop
  | .br b _ e => b = false ∧ e.vc A B
  | _ => False
omit [Gh] in
theorem Tree.vc_of_vcT {A : SV → SMem → Prop} {B : List SFr → SMem → Prop} : ∀ {t : Tree}, t.vcT A B → t.vc A B
  | .br _ _ _, h => ⟨fun _ => h.2, fun e => by rw [h.1] at e; cases e⟩
omit [Gh] in
theorem Tree.vc_of_vcE {A : SV → SMem → Prop} {B : List SFr → SMem → Prop} : ∀ {t : Tree}, t.vcE A B → t.vc A B
  | .br _ _ _, h => ⟨fun e => by rw [h.1] at e; (cases e), fun _ => h.2⟩
omit [Gh] in
def Tree.follow (A : SV → SMem → Prop) (B : List SFr → SMem → Prop) : Tree → List Bool → Prop
  | .ret v m, _ => A v m
  | .br b t _, true :: p => b = true ∧ t.follow A B p
  | .br b _ e, false :: p => b = false ∧ e.follow A B p
  | .br _ _ _, [] => False
  | .need q t, p => allP q ∧ t.follow A B p
  | .stop f m, _ => B f m
  | .fail _, _ => False
omit [Gh] in
theorem Tree.vc_of_follow {A : SV → SMem → Prop} {B : List SFr → SMem → Prop} : ∀ {t : Tree} {p : List Bool}, t.follow A B p → t.vc A B
  | .ret _ _, _, h => h
  | .br _ _ _, true :: _, h => ⟨fun _ => Tree.vc_of_follow h.2, fun e => by rw [h.1] at e; cases e⟩
  | .br _ _ _, false :: _, h => ⟨fun e => by rw [h.1] at e; (cases e), fun _ => Tree.vc_of_follow h.2⟩
  | .br _ _ _, [], h => h.elim
  | .need _ _, _, h => ⟨h.1, Tree.vc_of_follow h.2⟩
  | .stop _ _, _, h => h
  | .fail _, _, h => h.elim
omit [Gh] in
def tmOf (n : Nat) (l : List (Nat × SV)) : Tm := ⟨n, none, putT l .nil⟩
where
  putT : List (Nat × SV) → Tr (Option SV) → Tr (Option SV)
    | [], t => t
    | (i, v) :: l, t => putT l (t.set i (some (some v)))
omit [Gh] in
def subOk (base : Nat) (π : List (Nat × Nat)) (fs0 : List SFr) (m0 : SMem) (fs : List SFr) (m : SMem) : Prop :=
  match subS base π fs0 m0 fs m with
  | some q => allP q
  | none => False
theorem Good.of_sub {P : Program} {A : SV → SMem → Prop} {base : Nat} {π : List (Nat × Nat)} {fs0 fs : List SFr} {m0 m : SMem} (h : subOk base π fs0 m0 fs m) (hg : Good P A base fs0 m0) : Good P A base fs m := by
  unfold subOk at h
  split at h
  · rename_i q hq
    exact Good.sub π hq (allP_iff h) hg
  · exact h.elim
omit [Gh] in
def retOk (base : Nat) (π : List (Nat × Nat)) (s0 : SV) (m0 : SMem) (s : SV) (m : SMem) : Prop :=
  if Nat.ble base m0.next && keysOk base m0.next (roB m0) π [] then
    match andO (s0.same (ren base π) s) (sameM (ren base π) m m0) with
    | some q => allP q
    | none => False
  else False
theorem Good.ret {P : Program} {base : Nat} {fs : List SFr} {m s0m : SMem} {s0 : SV} (π : List (Nat × Nat)) (hg : Good P (fun s m' => retOk base π s0 s0m s m') base fs m) : Good P (fun s m' => s = s0 ∧ m' = s0m) base fs m := by
  intro n0 F w0 ws w Rs R fr frs hf hR hX hs
  refine (hg n0 F w0 ws w Rs R fr frs hf hR hX hs).mono ?_
  rintro v w' ⟨s, m', R', hA, hX', hR', hv⟩
  unfold retOk at hA
  split at hA
  case isFalse => exact hA.elim
  rename_i hc
  simp only [Bool.and_eq_true] at hc
  obtain ⟨hb, hk⟩ := hc
  have hb := Nat.le_of_ble_eq_true hb
  split at hA
  case h_2 => exact hA.elim
  rename_i q hq
  obtain ⟨x, y, hx, hy, rfl⟩ := andO_some hq
  have hA := allP_iff hA
  obtain ⟨h1, h2⟩ := Rel.sub hb hk hy (fun p hp => hA p (List.mem_append_right _ hp)) hR' hX' hs
  exact ⟨s0, s0m, _, ⟨rfl, rfl⟩, h2, h1, SV.same_ok (fun i j e => renR_ok e) hx (fun p hp => hA p (List.mem_append_left _ hp)) hv⟩
end
end Go.Proofs.YtjjeahnbppmigaaDoor
