/- A state shows what it says itself. No condition. -/
import Derived.Test.YtebkbihhnoellaaK16
set_option linter.unusedVariables false
set_option linter.unusedSimpArgs false
namespace Go.Proofs.Ytebkbihhnoellaa
set_option linter.unusedSectionVars false
def AllT (o : Option (List Prop)) : Prop := ∀ q, o = some q → ∀ p ∈ q, p
theorem AllT.and {a b : Option (List Prop)} (ha : AllT a) (hb : AllT b) : AllT (andO a b) := by
  intro q h p hp
  obtain ⟨x, y, e1, e2, e3⟩ := andO_some h
  rw [e3] at hp
  rcases List.mem_append.1 hp with k | k
  · exact ha _ e1 p k
  · exact hb _ e2 p k
theorem AllT.no : AllT none := fun _ h => by cases h
theorem AllT.nil : AllT (some []) := fun _ h _ hp => by cases h; cases hp
theorem AllT.one {p : Prop} (h : p) : AllT (some [p]) := by
  intro q e x hx
  cases e
  rw [List.mem_singleton.1 hx]
  exact h
theorem AllT.two {p p' : Prop} (h : p) (h' : p') : AllT (some [p, p']) := by
  intro q e x hx
  cases e
  rcases List.mem_cons.1 hx with k | k
  · rw [k]; exact h
  · rw [List.mem_singleton.1 k]; exact h'
theorem AllT.three {p p' p'' : Prop} (h : p) (h' : p') (h'' : p'') : AllT (some [p, p', p'']) := by
  intro q e x hx
  cases e
  simp only [List.mem_cons, List.not_mem_nil, or_false] at hx
  rcases hx with k | k | k <;> rw [k] <;> assumption
theorem AllT.ite {c : Prop} [Decidable c] {a : Option (List Prop)} (h : AllT a) : AllT (if c then a else none) := by
  split
  · exact h
  · exact .no
theorem AllT.bo {c : Bool} {a : Option (List Prop)} (h : AllT a) : AllT (match c with | true => a | false => none) := by
  cases c
  · exact .no
  · exact h
theorem SI.self (a : SI) : AllT (a.same a) := by
  cases a with
  | l x => exact AllT.ite .nil
  | o x => exact .one rfl
theorem SN.self (a : SN) : AllT (a.same a) := by
  cases a with
  | l x => exact AllT.ite .nil
  | o x => exact .one rfl
theorem SB.self (a : SB) : AllT (a.same a) := by
  cases a with
  | l x => exact AllT.ite .nil
  | o x => exact .one rfl
theorem SK.self (a : SK) : AllT (a.same a) := by
  cases a with
  | any => exact .nil
  | n x => exact x.self
  | full x => exact AllT.ite .nil
theorem sames_self {α : Type} {s : α → α → Option (List Prop)} (h : ∀ x, AllT (s x x)) : ∀ l, AllT (sames s l l)
  | [] => .nil
  | x :: l => (h x).and (sames_self h l)
theorem samesP_self {α : Type} {s : α → α → Option (List Prop)} (h : ∀ x, AllT (s x x)) : ∀ l, AllT (samesP s l l)
  | [] => .nil
  | x :: l => (h x).and (samesP_self h l)
theorem andAll_self {α : Type} {s : α → Option (List Prop)} (h : ∀ x, AllT (s x)) : ∀ l, AllT (andAll s l)
  | [] => .nil
  | x :: l => (h x).and (andAll_self h l)
section
variable (r : Nat → Option Nat)
theorem SF.self (a : SF) : AllT (a.same r a) := by
  cases a with
  | int k x => exact AllT.ite x.self
  | bool x => exact x.self
  | ptr i x => exact AllT.bo x.self
  | slice i x n c => exact AllT.bo (x.self.and (n.self.and c.self))
  | lit v => exact .one rfl
  | gp g x => exact AllT.ite x.self
  | mp i => exact AllT.bo .nil
  | e0 => exact .nil
  | e00 => exact .nil
  | e1 => exact .nil
  | opq v => exact .one rfl
theorem SC.self (a : SC) : AllT (a.same r a) := by
  cases a with
  | f x => exact x.self r
  | fn u a b => exact (AllT.one rfl).and ((sames_self (SF.self r) a).and (sames_self (SF.self r) b))
  | yl i => exact AllT.bo .nil
  | ifc t g l => cases g <;> exact AllT.ite (sames_self (SF.self r) l)
theorem SA.self (a : SA) : AllT (a.same r a) := by
  cases a with
  | ls l => exact sames_self (SC.self r) l
  | pre l => exact samesP_self (SC.self r) l
  | op v => exact .one rfl
  | pop v => exact .one rfl
  | raw v => exact .one rfl
theorem S1.self (a : S1) : AllT (a.same r a) := by
  cases a with
  | c x => exact x.self r
  | agg x => exact x.self r
theorem SV.self (a : SV) : AllT (a.same r a) := by
  cases a with
  | s x => exact x.self r
  | tup l => exact sames_self (S1.self r) l
theorem sameT_self (T : Tm) : AllT (sameT r T T) := by
  unfold sameT
  split
  · exact .no
  · refine AllT.ite (andAll_self (fun i => ?_) _)
    unfold sameT1
    split
    · exact .nil
    · rename_i x hx
      split
      · rename_i y hy
        cases hx.symm.trans hy
        exact x.self r
      · exact .no
theorem sameE_self (e : SF × S1 × Nat) : AllT (sameE r e e) := AllT.ite ((e.1.self r).and (e.2.1.self r))
theorem XO.self (a : XO) : AllT (a.same r a) := by
  cases a with
  | loop st pe fn tm ps as bd dl => exact AllT.bo ((AllT.one rfl).and (sameT_self r tm))
  | defr => exact .nil
  | map es c => exact AllT.ite (sames_self (sameE_self r) es)
  | mapR es c => exact AllT.ite (sames_self (sameE_self r) es)
  | mapI w kk vk es => exact AllT.ite (.three rfl rfl rfl)
theorem sameDf_self (a : SDf) : AllT (sameDf r a a) := by
  cases a with
  | col i => exact AllT.bo .nil
  | fn f l c => exact AllT.ite ((sames_self (SV.self r) l).and (sames_self (SF.self r) c))
theorem samePan_self (a : SPan) : AllT (samePan r a a) := AllT.ite (a.v.self r)
theorem sameMd_self (a : SMd) : AllT (sameMd r a a) := by
  cases a with
  | run => exact .nil
  | ret => exact .nil
  | pan l => exact sames_self (samePan_self r) l
theorem sameFr_self (a : SFr) (h : idsOk r a.todo = true) : AllT (sameFr r a a) :=
  AllT.ite ((AllT.two rfl (TodoOk.same h)).and ((sameT_self r a.tm).and ((sames_self (sameDf_self r) a.dfs).and (sameMd_self r a.md))))
theorem samesFr_self : ∀ l : List SFr, allB (fun f => idsOk r f.todo) l = true → AllT (sames (sameFr r) l l)
  | [], _ => .nil
  | x :: l, h => by
    have h' : ∀ y ∈ x :: l, idsOk r y.todo = true := allB_iff.1 h
    exact (sameFr_self r x (h' x (List.mem_cons_self ..))).and (samesFr_self l (allB_iff.2 fun y hy => h' y (List.mem_cons_of_mem _ hy)))
theorem andAll_mem {α : Type} {s : α → Option (List Prop)} : ∀ {l : List α}, (∀ x ∈ l, AllT (s x)) → AllT (andAll s l)
  | [], _ => .nil
  | x :: l, h => (h x (List.mem_cons_self ..)).and (andAll_mem fun y hy => h y (List.mem_cons_of_mem _ hy))
/-- Each number once. -/
noncomputable def onceX : List XB → Bool
  | [] => true
  | b :: l => allB (fun c => !Nat.beq b.id c.id) l && onceX l
theorem onceX_ok {b : XB} {c : XO} (l : List XB) : onceX l = true → b ∈ l → getX l b.id = some c → c = b.o := by
  induction l with
  | nil => intro _ hb; cases hb
  | cons x l ih =>
    intro h hb hc
    have h' : allB (fun c => !Nat.beq x.id c.id) l = true ∧ onceX l = true := by
      have : (allB (fun c => !Nat.beq x.id c.id) l && onceX l) = true := h
      simpa only [Bool.and_eq_true] using this
    have hc' : (if Nat.beq x.id b.id then some x.o else getX l b.id) = some c := hc
    rcases List.mem_cons.1 hb with k | k
    · rw [k, if_pos (Nat.beq_refl _)] at hc'
      cases hc'
      rw [k]
    · have hn := allB_iff.1 h'.1 b k
      rw [Bool.not_eq_true'] at hn
      rw [if_neg (by rw [hn]; exact Bool.false_ne_true)] at hc'
      exact ih h'.2 k hc'
variable {r}
theorem sameM_self (hr : ∀ i j, r i = some j → j = i) (m : SMem) (hx : onceX m.xs = true) : AllT (sameM r m m) := by
  refine AllT.and (andAll_self (fun i => ?_) _) (andAll_mem (fun b hb => ?_))
  · unfold sameB1
    split
    · exact .nil
    · rename_i b hb
      split
      · exact .no
      · rename_i j hj
        cases hr _ _ hj
        split
        · exact .no
        · rename_i c hc
          cases hb.symm.trans hc
          exact AllT.ite ((AllT.one rfl).and (b.arr.self r))
  · unfold sameX1
    split
    · exact .no
    · rename_i j hj
      cases hr _ _ hj
      split
      · exact .no
      · rename_i c hc
        cases onceX_ok _ hx hb hc
        exact b.o.self r
end
/-- Each one stays what it is. -/
noncomputable def idP (π : List (Nat × Nat)) : Bool := allB (fun p => Nat.beq p.1 p.2) π
theorem look_id : ∀ {π : List (Nat × Nat)}, idP π = true → ∀ i j, look π i = some j → j = i
  | [], _, _, _, h => by cases h
  | (a, b) :: l, hp, i, j, h => by
    have hp' : ∀ y ∈ (a, b) :: l, Nat.beq y.1 y.2 = true := allB_iff.1 hp
    unfold look at h
    split at h
    · rename_i e
      cases h
      exact (Nat.eq_of_beq_eq_true (hp' (a, b) (List.mem_cons_self ..))).symm.trans (Nat.eq_of_beq_eq_true e)
    · exact look_id (allB_iff.2 fun y hy => hp' y (List.mem_cons_of_mem _ hy)) i j h
theorem ren_id {base : Nat} {π : List (Nat × Nat)} (hp : idP π = true) (i j : Nat) (h : ren base π i = some j) : j = i := by
  unfold ren at h
  split at h
  · cases h; rfl
  · exact look_id hp i j h
/-- What a state says of itself. -/
noncomputable def selfQ (base : Nat) (π : List (Nat × Nat)) (fs : List SFr) (m : SMem) : List Prop := match subS base π fs m fs m with
  | some q => q
  | none => []
noncomputable def selfB (base : Nat) (π : List (Nat × Nat)) (fs : List SFr) (m : SMem) : Bool := idP π && onceX m.xs && allB (fun f => idsOk (ren base π) f.todo) fs
theorem allP_mk : ∀ {l : List Prop}, (∀ p ∈ l, p) → allP l
  | [], _ => trivial
  | p :: l, h => ⟨h p (List.mem_cons_self ..), allP_mk fun x hx => h x (List.mem_cons_of_mem _ hx)⟩
theorem selfQ_ok {base : Nat} {π : List (Nat × Nat)} {fs : List SFr} {m : SMem} (h : selfB base π fs m = true) : allP (selfQ base π fs m) := by
  simp only [selfB, Bool.and_eq_true] at h
  refine allP_mk fun p hp => ?_
  unfold selfQ at hp
  split at hp
  · rename_i q hq
    unfold subS at hq
    split at hq
    · exact AllT.and (samesFr_self _ fs h.2) (sameM_self (ren_id h.1.1) m h.1.2) q hq p hp
    · cases hq
  · cases hp
theorem good_P {E : Env} (hE : EnvOk E) {A : SV → SMem → Prop} {B D b a base : Nat} {fs fs1 : List SFr} {m m1 : SMem} {π : List (Nat × Nat)}
    (e : (runS E B D b a base fs m).vc A (fun f m' => subOk base π fs1 m1 f m') = allP (selfQ base π fs1 m1)) (h : selfB base π fs1 m1 = true) (hg : Good E.P A base fs1 m1) : Good E.P A base fs m :=
  good_S hE e (selfQ_ok h) hg
end Go.Proofs.Ytebkbihhnoellaa
