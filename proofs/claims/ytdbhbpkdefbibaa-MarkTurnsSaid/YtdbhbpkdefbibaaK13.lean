/- What is to be shown of a run, as one proposition that the kernel prints; contracts. No condition. -/
import Derived.Test.YtdbhbpkdefbibaaK12
namespace Go.Proofs.Ytdbhbpkdefbibaa

def allP : List Prop → Prop
  | [] => True
  | p :: l => p ∧ allP l
theorem allP_iff : ∀ {l : List Prop}, allP l → ∀ p ∈ l, p
  | [], _, p, hp => by cases hp
  | a :: l, h, p, hp => by
    rcases List.mem_cons.1 hp with rfl | hp
    · exact h.1
    · exact allP_iff h.2 p hp
def Tree.vc (A : SV → SMem → Prop) (B : SFr → SMem → Prop) : Tree → Prop
  | .ret v m => A v m
  | .br b t e => (b = true → t.vc A B) ∧ (b = false → e.vc A B)
  | .need q t => allP q ∧ t.vc A B
  | .stop f m => B f m
  | .fail _ => False
theorem Tree.sat_of_vc {A A' : SV → SMem → Prop} {B B' : SFr → SMem → Prop} (hA : ∀ v m, A v m → A' v m) (hB : ∀ f m, B f m → B' f m) : ∀ {t : Tree}, t.vc A B → t.sat A' B'
  | .ret _ _, h => hA _ _ h
  | .br _ _ _, h => ⟨fun e => Tree.sat_of_vc hA hB (h.1 e), fun e => Tree.sat_of_vc hA hB (h.2 e)⟩
  | .need _ _, h => ⟨allP_iff h.1, Tree.sat_of_vc hA hB h.2⟩
  | .stop _ _, h => hB _ _ h
  | .fail _, h => h.elim

/-- One way through a tree. -/
def Tree.follow (A : SV → SMem → Prop) (B : SFr → SMem → Prop) : Tree → List Bool → Prop
  | .ret v m, _ => A v m
  | .br b t _, true :: p => b = true ∧ t.follow A B p
  | .br b _ e, false :: p => b = false ∧ e.follow A B p
  | .br _ _ _, [] => False
  | .need q t, p => allP q ∧ t.follow A B p
  | .stop f m, _ => B f m
  | .fail _, _ => False
theorem Tree.vc_of_follow {A : SV → SMem → Prop} {B : SFr → SMem → Prop} : ∀ {t : Tree} {p : List Bool}, t.follow A B p → t.vc A B
  | .ret _ _, _, h => h
  | .br _ _ _, true :: _, h => ⟨fun _ => Tree.vc_of_follow h.2, fun e => by rw [h.1] at e; cases e⟩
  | .br _ _ _, false :: _, h => ⟨fun e => by rw [h.1] at e; (cases e), fun _ => Tree.vc_of_follow h.2⟩
  | .br _ _ _, [], h => h.elim
  | .need _ _, _, h => ⟨h.1, Tree.vc_of_follow h.2⟩
  | .stop _ _, _, h => h
  | .fail _, _, h => h.elim

/-- A frame's slots, those that matter. -/
def putT : Tm → List (Nat × SV) → Tm
  | l, [] => l
  | l, (i, v) :: r => putT (setN l i (some v)) r
def nones : Nat → Tm
  | 0 => []
  | n + 1 => none :: nones n
def tmOf (n : Nat) (l : List (Nat × SV)) : Tm := putT (nones n) l

def TodoOk (a b : List Item) : Prop := a = b
/-- One state shows what another one says. -/
def subOk (π : List (Nat × Nat)) (f0 : SFr) (m0 : SMem) (f : SFr) (m : SMem) : Prop :=
  if Nat.beq f0.fn f.fn && Nat.beq f0.base f.base then
    match subS π f0 m0 f m with
    | some q => TodoOk f0.todo f.todo ∧ allP q
    | none => False
  else False
theorem Good.of_sub {P : Program} {A : SV → SMem → Prop} {π : List (Nat × Nat)} {f0 f : SFr} {m0 m : SMem} (h : subOk π f0 m0 f m) (hg : Good P A f0 m0) : Good P A f m := by
  unfold subOk at h
  split at h
  · rename_i hc
    simp only [Bool.and_eq_true, Nat.beq_eq] at hc
    split at h
    · rename_i q hq
      exact Good.sub π hq (allP_iff h.2) hc.1 h.1 hc.2 hg
    · exact h.elim
  · exact h.elim
/-- What is left shows what is said of it. -/
def retOk (base : Nat) (π : List (Nat × Nat)) (s0 : SV) (m0 : SMem) (s : SV) (m : SMem) : Prop :=
  if Nat.ble base m0.next && keysOk base m0.next π [] then
    match andO (s0.same (ren base π) s) (sameM (ren base π) m.bl m0.bl) with
    | some q => allP q
    | none => False
  else False
theorem Good.ret {P : Program} {f : SFr} {m s0m : SMem} {s0 : SV} (π : List (Nat × Nat)) (hg : Good P (fun s m' => retOk f.base π s0 s0m s m') f m) : Good P (fun s m' => s = s0 ∧ m' = s0m) f m := by
  intro n0 F w0 ws w Rs R a hT hd hR hX hs
  refine (hg n0 F w0 ws w Rs R a hT hd hR hX hs).mono ?_
  rintro v w' ⟨s, m', R', hA, hX', hR', hv⟩
  unfold retOk at hA
  split at hA
  case isFalse => exact hA.elim
  rename_i hc
  simp only [Bool.and_eq_true] at hc
  obtain ⟨hb, hk⟩ := hc
  have hb := Nat.le_of_ble_eq_true hb
  obtain ⟨k1, k2⟩ := keysOk_ok hk
  split at hA
  case h_2 => exact hA.elim
  rename_i q hq
  obtain ⟨x, y, hx, hy, rfl⟩ := andO_some hq
  have hA := allP_iff hA
  let R0 : Ren := fun i => match ren f.base π i with | some j => R' j | none => none
  have hr : ∀ i j, ren f.base π i = some j → R0 i = R' j := by
    intro i j e
    show (match ren f.base π i with | some j => R' j | none => none) = _
    rw [e]
  have hcase : ∀ i g, R0 i = some g → (i < f.base ∧ R' i = some g) ∨ (f.base ≤ i ∧ i < s0m.next ∧ ∃ j, look π i = some j ∧ f.base ≤ j ∧ R' j = some g) := by
    intro i g e
    replace e : (match ren f.base π i with | some j => R' j | none => none) = some g := e
    unfold ren at e
    split at e
    · rename_i j hj
      split at hj
      · rename_i hlt
        cases hj
        exact .inl ⟨by simpa using hlt, e⟩
      · obtain ⟨l1, l2, l3, _⟩ := k1 i j hj
        exact .inr ⟨l1, l2, j, hj, l3, e⟩
    · cases e
  have hinj : ∀ i k j, ren f.base π i = some j → ren f.base π k = some j → i = k := by
    intro i k j hi hk
    unfold ren at hi hk
    split at hi <;> split at hk
    · cases hi; cases hk; rfl
    · rename_i e1 e2
      cases hi
      have := (k1 k _ hk).2.2.1
      have e1' : i < f.base := by simpa using e1
      omega
    · rename_i e1 e2
      cases hk
      have := (k1 i _ hi).2.2.1
      have e2' : k < f.base := by simpa using e2
      omega
    · exact k2 i k j hi hk
  have hM := sameM_ok (R := R') (R0 := R0) hr hy fun p hp => hA p (List.mem_append_right _ hp)
  refine ⟨s0, s0m, R0, ⟨rfl, rfl⟩, ?_, ?_, SV.same_ok hr hx (fun p hp => hA p (List.mem_append_left _ hp)) hv⟩
  · refine ⟨fun i g hi => ?_, fun i g hi => ?_, hX'.2.2.1, hb⟩
    · have hlt := hs i g hi
      have : ren f.base π i = some i := by
        unfold ren
        rw [if_pos (by simpa using hlt)]
      rw [hr _ _ this]
      exact hX'.1 i g hi
    · rcases hcase i g hi with ⟨h, h'⟩ | ⟨h, _, j, _, hj, h'⟩
      · rcases hX'.2.1 i g h' with e | ⟨_, e⟩
        · exact .inl e
        · omega
      · rcases hX'.2.1 j g h' with e | ⟨e, _⟩
        · have := hs j g e; omega
        · exact .inr ⟨e, h⟩
  · refine ⟨fun i j g k b c hi hj hgk hb hc hw => ?_, fun i g hi => ?_, fun i g hi => ?_, fun i b hb => ?_, hR'.base, hR'.fr⟩
    · obtain ⟨i', b', e1, e2, _, e3, _⟩ := hM i b hb
      obtain ⟨j', c', e4, e5, _, e6, _⟩ := hM j c hc
      rw [hr _ _ e1] at hi
      rw [hr _ _ e4] at hj
      have := hR'.inj i' j' g k b' c' hi hj hgk e2 e5 (hw.imp e3 e6)
      subst this
      exact hinj i j i' e1 e4
    · rcases hcase i g hi with ⟨_, h⟩ | ⟨_, _, j, _, _, h⟩
      · exact hR'.lt _ _ h
      · exact hR'.lt _ _ h
    · rcases hcase i g hi with ⟨h, _⟩ | ⟨_, h, _⟩
      · omega
      · exact h
    · obtain ⟨j, c, e1, e2, e3, e4, e5⟩ := hM i b hb
      obtain ⟨g, cs, fz, l1, l2, l3, l4, l5⟩ := hR'.blk j c e2
      exact ⟨g, cs, fz, by rw [hr _ _ e1]; exact l1, by rw [e3]; exact l2, l3, e5 cs l4, fun hw => l5 (e4 hw)⟩

theorem Leads.loop {P : Program} {f : FuncId} {a : Act} {b : Code} {k : List Item} {w : World} {Φ : Value → World → Prop} (h : Leads P f a (.inLoop b :: k) w Φ) : Leads P f a (.code (.loop b) :: k) w Φ := by
  intro cs
  obtain ⟨v, w', fr, h1, ⟨n, hn⟩, h3, h4⟩ := h cs
  refine ⟨v, w', fr, h1, ?_, h3, h4⟩
  cases n with
  | zero =>
    simp only [runN, Stepped.next.injEq] at hn
    have hm := h4.1
    have e : (lone ((bf f).at a (.inLoop b :: k)) cs w).gs[0]? = (lone fr cs w').gs[0]? := by rw [hn]
    simp only [lone, List.getElem?_toArray, List.getElem?_cons_zero, Option.some.injEq, Goroutine.mk.injEq] at e
    rw [← e.1] at hm
    cases hm
  | succ n =>
    simp only [runN, step_inLoop] at hn
    exact .head step_loop ⟨n, hn⟩
def headL : List Item → List Item
  | .code (.loop b) :: k => .inLoop b :: k
  | l => l
theorem Good.head {P : Program} {A : SV → SMem → Prop} {fn base : Nat} {tm : Tm} {m : SMem} {td : List Item} (h : Good P A ⟨fn, tm, headL td, base⟩ m) : Good P A ⟨fn, tm, td, base⟩ m := by
  intro n0 F w0 ws w Rs R a h1 h2 h3 h4 h5
  have := h n0 F w0 ws w Rs R a h1 h2 h3 h4 h5
  unfold headL at this
  dsimp only at this ⊢
  split at this
  · exact this.loop
  · exact this
def Tree.todo : Tree → List Item
  | .stop f _ => f.todo
  | .need _ t => t.todo
  | .br _ t e => match t.todo with
    | [] => e.todo
    | l => l
  | _ => []
def isLoop : Item → Bool
  | .inLoop _ | .code (.loop _) => true
  | _ => false
def i64 (n : SI) : SV := .s (.c (.f (.int .i64 n)))
def sB (b : SB) : SV := .s (.c (.f (.bool b)))
def ptr (i : Nat) (o : SN) : SV := .s (.c (.f (.ptr i o)))
def agg (cs : Array Value) : SV := .s (.agg (.op cs))
theorem run_vc {E : Env} (hE : EnvOk E) {A A' : SV → SMem → Prop} {B : SFr → SMem → Prop} {f : SFr} {m : SMem} (n : Nat) {V : Prop} (e : (run E n f m).vc A B = V) (h : V) (hA : ∀ s m, A s m → A' s m) (hB : ∀ f m, B f m → Good E.P A' f m) : Good E.P A' f m :=
  good_of_run hE n (Tree.sat_of_vc hA hB (e ▸ h))
theorem run_way {E : Env} (hE : EnvOk E) {A A' : SV → SMem → Prop} {B : SFr → SMem → Prop} {f : SFr} {m : SMem} (n : Nat) {p : List Bool} {V : Prop} (e : (run E n f m).follow A B p = V) (h : V) (hA : ∀ s m, A s m → A' s m) (hB : ∀ f m, B f m → Good E.P A' f m) : Good E.P A' f m :=
  good_of_run hE n (Tree.sat_of_vc hA hB (Tree.vc_of_follow (e ▸ h : (run E n f m).follow A B p)))
theorem past_way {E : Env} (hE : EnvOk E) {A A' : SV → SMem → Prop} {B : SFr → SMem → Prop} {f : SFr} {m : SMem} (n : Nat) {p : List Bool} {V : Prop} (e : (stepT E.go (run E n) f m f.todo).follow A B p = V) (h : V) (hA : ∀ s m, A s m → A' s m) (hB : ∀ f m, B f m → Good E.P A' f m) : Good E.P A' f m :=
  good_past hE n (Tree.sat_of_vc hA hB (Tree.vc_of_follow (e ▸ h : (stepT E.go (run E n) f m f.todo).follow A B p)))
theorem past_vc {E : Env} (hE : EnvOk E) {A A' : SV → SMem → Prop} {B : SFr → SMem → Prop} {f : SFr} {m : SMem} (n : Nat) {V : Prop} (e : (stepT E.go (run E n) f m f.todo).vc A B = V) (h : V) (hA : ∀ s m, A s m → A' s m) (hB : ∀ f m, B f m → Good E.P A' f m) : Good E.P A' f m :=
  good_past hE n (Tree.sat_of_vc hA hB (e ▸ h))

/-- A function's contract: a tree of answers. -/
def Con (E : Env) (g : FuncId) (l : List SV) (m : SMem) (t : Tree) : Prop :=
  ∀ A, t.sat A (fun _ _ => False) → ∃ fn c, E.fn g = some fn ∧ fn.body = some c ∧ Good E.P A ⟨g, padN fn.ntmps (l.map some), [.code c], m.next⟩ m
theorem EnvOk.with {E : Env} (hE : EnvOk E) (con : FuncId → List SV → SMem → Option Tree) (halt : FuncId → Item → Bool) (h : ∀ g l m t, con g l m = some t → Con E g l m t) : EnvOk ⟨E.P, E.fn, con, halt⟩ :=
  ⟨hE.fns, fun f l m t A hc hs => by
    obtain ⟨fn, c, h1, h2, h3⟩ := h f l m t hc A hs
    refine ⟨fn, h1, by rw [h2]; rfl, fun n0 F w0 w R args hl hR => ?_⟩
    exact answers_of_good (hE.fns _ _ h1).1 h2 h3 hl hR, hE.mixed⟩
/-- From a run that never stops. -/
theorem Con.one {E : Env} {g : FuncId} {l : List SV} {m m0 : SMem} {q : List Prop} {s0 : SV} {fn : Func} {c : Code} (h1 : E.fn g = some fn) (h2 : fn.body = some c)
    (h : (∀ p ∈ q, p) → Good E.P (fun s m' => s = s0 ∧ m' = m0) ⟨g, padN fn.ntmps (l.map some), [.code c], m.next⟩ m) : Con E g l m (needs q (.ret s0 m0)) := by
  intro A hs
  obtain ⟨hq, hA⟩ := Tree.sat_needs hs
  exact ⟨fn, c, h1, h2, (h hq).mono fun s m' ⟨e1, e2⟩ => by rw [e1, e2]; exact hA⟩
end Go.Proofs.Ytdbhbpkdefbibaa
