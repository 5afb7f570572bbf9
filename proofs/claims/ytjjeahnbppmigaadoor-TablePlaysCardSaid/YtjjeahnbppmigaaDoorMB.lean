/- Of runs: Give, Take and Find: what they answer. No condition. -/
import Derived.Test.YtjjeahnbppmigaaDoorMA
import Derived.Test.YtjjeahnbppmigaaDoorK29
set_option linter.unusedVariables false
set_option linter.unusedSimpArgs false
namespace Go.Proofs.YtjjeahnbppmigaaDoor
set_option linter.unusedSectionVars false
variable [Gh]
set_option maxRecDepth 100000
omit [Gh] in
theorem tzn_def (L : BitVec 64) : tz (~~~ (L >>> tz L)) = tzn L := rfl
omit [Gh] in
theorem uw_ne_false (L : BitVec 64) (h : L = 0#64) : (uw L != 0) = false := by subst h; rfl
omit [Gh] in
theorem uw_ne_true (L : BitVec 64) (h : L ≠ 0#64) : (uw L != 0) = true := by
  have := uw_zero_iff L
  rw [decide_eq_false h] at this
  unfold bne
  rw [this]; rfl
theorem opN_good {c : List SFr} {A : SV → SMem → Prop} {Q : Int → Prop} (hg : ∀ left, Q left → Good EC.P A 0 (opH c left) (opM c)) {fs : List SFr} {m : SMem} (h : opN c Q fs m) : Good EC.P A 0 fs m := by
  unfold opN at h
  split at h
  · exact Good.of_sub h.2 (hg _ h.1)
  · exact h.elim
theorem opN0_good {c : List SFr} {A : SV → SMem → Prop} {Q : Int → Prop} (hg : ∀ left, Q left → Good EC.P A 0 (opH c left) (opM c)) {fs : List SFr} {m : SMem} (h : opN0 c Q fs m) : Good EC.P A 0 fs m := by
  unfold opN0 at h
  split at h
  · exact Good.of_sub h.2 (Good.head (hg _ h.1))
  · exact h.elim
omit [Gh] in
theorem mayB_iff {p n : Int} : mayB p n = true ↔ 1 ≤ n ∧ 0 ≤ p ∧ p < 64 ∧ n ≤ 64 - p := by unfold mayB; rw [decide_eq_true_eq]
omit [Gh] in
def allIn (X : BitVec 64) (a n : Nat) (b : Bool) : Bool := decide (∀ i : Fin 64, a ≤ i.val → i.val < a + n → X.getLsbD i.val = b)
omit [Gh] in
theorem allIn_iff {X : BitVec 64} {a n : Nat} {b : Bool} (h : a + n ≤ 64) : allIn X a n b = true ↔ ∀ i, a ≤ i → i < a + n → X.getLsbD i = b := by
  unfold allIn
  rw [decide_eq_true_eq]
  exact ⟨fun k i h1 h2 => k ⟨i, by omega⟩ h1 h2, fun k i h1 h2 => k i.val h1 h2⟩
omit [Gh] in
def takeOk (X : BitVec 64) (p n : Int) : Bool := mayB p n && allIn X p.toNat n.toNat true
omit [Gh] in
def takeW (X : BitVec 64) (p n : Int) : BitVec 64 := if takeOk X p n = true then X &&& ~~~ spanW p.toNat n.toNat else X
section
variable (X : BitVec 64) (p n : Int)
omit [Gh] in
theorem take_no (h : takeOk X p n = false) : takeW X p n = X := by unfold takeW; rw [h]; rfl
omit [Gh] in
theorem take_yes (h : takeOk X p n = true) : uw (takeW X p n) = ari .andNot .u64 (uw X) (spanI p n) := by
  have hm := mayB_iff.1 (show mayB p n = true by unfold takeOk at h; simp at h; exact h.1)
  unfold takeW
  rw [if_pos h, spanI_uw p n (by omega) (by omega) (by omega), ari_uw_andNot]
omit [Gh] in
theorem nz_run {L : BitVec 64} (h : L ≠ 0#64) : ((tz L : Nat) == (0 : Int) && (tzn L : Nat) == (0 : Int)) = false := by
  have := (low_run h).1
  have : ((tzn L : Nat) == (0 : Int)) = false := by
    rw [beq_eq_false_iff_ne]; omega
  rw [this, Bool.and_false]
theorem take_good (hm : mayB p n = true) : ∀ (k : Nat) (L : BitVec 64) (q : Nat), 64 - q < k → Part X L q → (q ≤ p.toNat ∨ ∃ i, p.toNat ≤ i ∧ i < p.toNat + n.toNat ∧ X.getLsbD i = false) →
    Good EC.P (opA (setB (uw (takeW X p n)) (takeOk X p n))) 0 (opH (takeC (uw X) p n) (uw L)) (opM (takeC (uw X) p n)) := by
  have hm' := mayB_iff.1 hm
  have hi64 : ∀ t : Int, 0 ≤ t → t ≤ 128 → IntKind.i64.wrap t = t := fun t h1 h2 => Go.IntWalk.i64_in _ (by omega)
  have hnot : (∃ i, p.toNat ≤ i ∧ i < p.toNat + n.toNat ∧ X.getLsbD i = false) → takeOk X p n = false := by
    rintro ⟨i, h1, h2, h3⟩
    cases h : takeOk X p n with
    | false => rfl
    | true =>
      unfold takeOk at h
      rw [hm, Bool.true_and, allIn_iff (by omega)] at h
      rw [h i h1 h2] at h3
      cases h3
  intro k
  induction k with
  | zero => intro L q h; omega
  | succ k ih =>
    intro L q hk hP hI
    refine past_vc EC_ok 1000 (take_step (uw X) p n (uw L) (uw (takeW X p n)) (takeOk X p n) (fun left => ∃ L' q', left = uw L' ∧ 64 - q' < k ∧ Part X L' q' ∧ (q' ≤ p.toNat ∨ ∃ i, p.toNat ≤ i ∧ i < p.toNat + n.toNat ∧ X.getLsbD i = false))) ?_ (fun _ _ h => h)
      (fun fs m hb => opN_good (fun left ⟨L', q', e, k1, k2, k3⟩ => by rw [e]; exact ih L' q' k1 k2 k3) hb)
    by_cases hL : L = 0#64
    · subst hL
      have hok : takeOk X p n = false := by
        rcases hI with h | h
        · exact hnot ⟨p.toNat, Nat.le_refl _, by omega, hP.done _ h⟩
        · exact hnot h
      refine ⟨fun h => ?_, fun _ => ?_⟩
      · cases h
      · exact ⟨by rw [take_no X p n hok], hok, trivial⟩
    · obtain ⟨hr, hP'⟩ := hP.next hL
      have ha := tz_lt hL
      rw [uw_ne_true L hL]
      simp only [tzI_uw, ari_n, tzn_def, ofInt_uw, ari_next hL, nz_run hL, ari_add]
      have hle := hr.le
      have hpa := hr.pa
      have hn1 := hr.n1
      have e1 : IntKind.i64.wrap (p + n) = p + n := hi64 _ (by omega) (by omega)
      have e2 : IntKind.i64.wrap ((tz L : Nat) + (tzn L : Nat)) = ((tz L : Nat) + (tzn L : Nat) : Int) := hi64 _ (by omega) (by omega)
      have e3 : IntKind.i64.wrap (64 - n) = 64 - n := hi64 _ (by omega) (by omega)
      have e4 : IntKind.i64.wrap (64 - (tzn L : Nat)) = 64 - (tzn L : Nat) := hi64 _ (by omega) (by omega)
      rw [e1, e2, e3, e4]
      have hlt : 64 - (tz L + tzn L) < k := by clear hI hnot; omega
      have hgo : (¬ ((tz L : Nat) ≤ p) ∨ ¬ (p + n ≤ (tz L : Nat) + (tzn L : Nat))) → ∃ L' q', uw (nextW L) = uw L' ∧ 64 - q' < k ∧ Part X L' q' ∧ (q' ≤ p.toNat ∨ ∃ i, p.toNat ≤ i ∧ i < p.toNat + n.toNat ∧ X.getLsbD i = false) := by
        intro hc
        refine ⟨nextW L, tz L + tzn L, rfl, hlt, hP', ?_⟩
        rcases hI with h | h
        · by_cases h1 : tz L + tzn L ≤ p.toNat
          · exact .inl h1
          · by_cases h2 : p.toNat < tz L
            · exact .inr ⟨p.toNat, Nat.le_refl _, by omega, hr.gap _ h h2⟩
            · exact .inr ⟨tz L + tzn L, by omega, by omega, hr.hi⟩
        · exact .inr h
      have hyes : ((tz L : Nat) ≤ p) → (p + n ≤ (tz L : Nat) + (tzn L : Nat)) → takeOk X p n = true := by
        intro c1 c2
        unfold takeOk
        rw [hm, Bool.true_and, allIn_iff (by omega)]
        exact fun i h1 h2 => hr.all i (by omega) (by omega)
      refine ⟨fun _ => ⟨⟨trivial, trivial⟩, ⟨by omega, trivial⟩, ⟨trivial, trivial⟩, fun c1 => ⟨fun c2 => ⟨fun h => ?_, fun _ => ?_⟩, fun c2 => ⟨⟨by omega, by omega, trivial⟩, hgo (by simp at c2; omega), ?_⟩⟩, fun c1 => ⟨⟨by omega, by omega, trivial⟩, hgo (by simp at c1; omega), ?_⟩⟩, fun h => ?_⟩
      all_goals first | (cases h; done) | skip
      · have h0 := hyes (by simpa using c1) (by simpa using c2)
        exact ⟨⟨by omega, by omega, trivial⟩, take_yes X p n h0, h0, trivial⟩
      all_goals repeat' first | exact trivial | apply And.intro | exact rfl
end
end Go.Proofs.YtjjeahnbppmigaaDoor
/- Of runs: the contract of Take. No condition. -/
namespace Go.Proofs.YtjjeahnbppmigaaDoor
set_option linter.unusedSectionVars false
variable [Gh]
set_option maxRecDepth 100000
section
variable (X : BitVec 64) (p n : Int) (m : SMem)
theorem take_con : Con E0 46 [setIs (uw X), i64 (.o p), i64 (.o n)] m (needs [] (.ret (setB (uw (takeW X p n)) (takeOk X p n)) m)) := by
  refine Con.pure E0_ok (by kernel_rfl : E0.fn 46 = some Tryd.f46) (by kernel_rfl : Tryd.f46.body = some (Tryd.f46.body.getD .skip)) (by kernel_rfl) (by kernel_rfl) fun _ => ?_
  refine (Good.ret (m := ⟨0, .nil, []⟩) (s0m := ⟨0, .nil, []⟩) (s0 := setB (uw (takeW X p n)) (takeOk X p n)) [] ?_).mono fun _ _ h => h.1
  show Good EC.P _ 0 (takeC (uw X) p n) _
  by_cases hm : mayB p n = true
  · have hq : ∀ left, left = uw X → Good EC.P (opA (setB (uw (takeW X p n)) (takeOk X p n))) 0 (opH (takeC (uw X) p n) left) (opM (takeC (uw X) p n)) := by
      rintro _ rfl
      exact take_good X p n hm 65 X 0 (by omega) (Part.start X) (.inl (Nat.zero_le _))
    refine run_vc EC_ok 1000 (take_start (uw X) p n (uw (takeW X p n)) (takeOk X p n) (fun left => left = uw X)) ?_ (fun _ _ h => h) (fun fs m hb => opN0_good hq hb)
    rw [hm]
    refine ⟨fun h => (by cases h), fun _ => ⟨rfl, ?_⟩⟩
    repeat' first | exact trivial | apply And.intro | exact rfl
  · have hm : mayB p n = false := by simpa using hm
    have h0 : takeOk X p n = false := by unfold takeOk; rw [hm]; rfl
    refine run_vc EC_ok 1000 (take_start (uw X) p n (uw (takeW X p n)) (takeOk X p n) (fun _ => False)) ?_ (fun _ _ h => h) (fun fs m hb => opN0_good (fun _ h => h.elim) hb)
    rw [hm]
    exact ⟨fun _ => ⟨by rw [take_no X p n h0], h0, trivial⟩, fun h => by cases h⟩
end
end Go.Proofs.YtjjeahnbppmigaaDoor
/- Of extent: the environment of its functions: sets of pages; rows of pairs. No condition. -/
namespace Go.Proofs.YtjjeahnbppmigaaDoor
set_option linter.unusedSectionVars false
variable [Gh]
set_option maxRecDepth 100000
noncomputable section
omit [Gh] in
def reTm : List Tm → List SFr → List SFr
  | t :: ts, ⟨fn, _, td, dfs, md, kind, rnd⟩ :: cs => ⟨fn, t, td, dfs, md, kind, rnd⟩ :: reTm ts cs
  | _, _ => []
omit [Gh] in
def Tree.no : Tree → Tree
  | .br _ _ e => e
  | .need _ t => t.no
  | t => t
omit [Gh] in
def boolR (b : Bool) (s : SV) (_ : SMem) : Prop := match s with
  | .s (.c (.f (.bool x))) => x.den = b
  | _ => False
omit [Gh] in
def intR (n : Int) (s : SV) (_ : SMem) : Prop := match s with
  | .s (.c (.f (.int .i64 x))) => x.den = n
  | _ => False
omit [Gh] in
def hF (h : Bool) (fs : List SFr) : List SFr := cond h (headF fs) fs
omit [Gh] in
def sl0 (off n : Nat) : SF := .slice 0 (.o off) (.o n) .any
omit [Gh] in
def extS (off n : Nat) (len : Int) : SV := .s (.agg (.ls [.f (sl0 off n), .f (.int .i64 (.o len))]))
omit [Gh] in
def rwA (v : Bool) (cs : Array Value) : SA := cond v (.raw cs) (.pop cs)
omit [Gh] in
def rwM (v : Bool) (cs : Array Value) (ty : TypeId) : SMem := ⟨1, (Tr.nil : Tr SBlk).set 0 (some ⟨rwA v cs, ty, false⟩), []⟩
omit [Gh] in
def conX (g : FuncId) (l : List SV) (m : SMem) : Option Tree :=
  match g, l with
  | 45, [.s (.c (.f (.int .i64 x)))] => some (.ret (.s (.agg (.ls [.f (.int .u64 (.o (uw (lowW (clampN x.den)))))]))) m)
  | 46, [.s (.agg (.ls [.f (.int .u64 x)])), .s (.c (.f (.int .i64 p))), .s (.c (.f (.int .i64 n)))] =>
    some (.need [uw (BitVec.ofInt 64 x.den) = x.den] (.ret (setB (uw (takeW (BitVec.ofInt 64 x.den) p.den n.den)) (takeOk (BitVec.ofInt 64 x.den) p.den n.den)) m))
  | _, _ => none
omit [Gh] in
def EX : Env := ⟨Tryd.prog, fnOf, conX, fun _ _ x => isLoop x⟩
end
theorem conX_ok : ∀ g l m t, conX g l m = some t → Con E0 g l m t := by
  intro g l m t h
  unfold conX at h
  split at h
  · rename_i x
    cases h
    refine Con.args (fun R vs ha => ?_) (of_con x.den m)
    match vs, ha with
    | [v], ha => exact ⟨ha.1, trivial⟩
  · rename_i x p n
    cases h
    intro A hs
    have hq : uw (BitVec.ofInt 64 x.den) = x.den := hs.1 _ (by simp)
    have h := take_con (BitVec.ofInt 64 x.den) p.den n.den m
    rw [hq] at h
    refine Con.args (fun R vs ha => ?_) h A hs.2
    match vs, ha with
    | [a, b, c], ha =>
      obtain ⟨⟨cs, e, hc⟩, h2, h3, _⟩ := ha
      refine ⟨⟨cs, e, ?_⟩, h2, h3, trivial⟩
      have hc : All2 (SC.ok R) [.f (.int .u64 x)] cs.toList := hc
      show All2 (SC.ok R) [.f (.int .u64 (.o x.den))] cs.toList
      generalize cs.toList = L at hc ⊢
      match L, hc with
      | [w], hc => exact ⟨hc.1, trivial⟩
  · cases h
theorem EX_ok : EnvOk EX := EnvOk.with E0_ok _ _ conX_ok
theorem hF_good {h : Bool} {b : Nat} {π : List (Nat × Nat)} {fs0 fs : List SFr} {m0 m : SMem} {A : SV → SMem → Prop} (hs : subOk b π (hF h fs0) m0 fs m) (hg : Good Tryd.prog A b (headF fs0) m0) : Good Tryd.prog A b fs m := by
  cases h with
  | true => exact Good.of_sub hs hg
  | false => exact Good.of_sub hs (Good.head hg)
omit [Gh] in
def at0 (cs : Array Value) (off i : Nat) : Int := intAt cs (off + i * 2)
omit [Gh] in
def nn0 (cs : Array Value) (off i : Nat) : Int := intAt cs (off + i * 2 + 1)
omit [Gh] in
def Small (cs : Array Value) (off n : Nat) : Prop := ∀ i, i < n → 1 ≤ nn0 cs off i ∧ nn0 cs off i ≤ 64
omit [Gh] in
def sumN (cs : Array Value) (off : Nat) : Nat → Int
  | 0 => 0
  | k + 1 => sumN cs off k + nn0 cs off k
omit [Gh] in
theorem sumN_le {cs : Array Value} {off n : Nat} (h : Small cs off n) : ∀ k, k ≤ n → (k : Int) ≤ sumN cs off k ∧ sumN cs off k ≤ 64 * k
  | 0, _ => ⟨by simp [sumN], by simp [sumN]⟩
  | k + 1, hk => by
    obtain ⟨h1, h2⟩ := sumN_le h k (by omega)
    obtain ⟨h3, h4⟩ := h k (by omega)
    unfold sumN
    omega
omit [Gh] in
theorem i64w {x : Int} (h : -9223372036854775808 ≤ x ∧ x ≤ 9223372036854775807) : IntKind.i64.wrap x = x := Go.IntWalk.i64_in _ (by omega)
omit [Gh] in
theorem next80 {i n : Nat} (h : i < n) (hn : n ≤ 80) : ari .add .i64 (i : Int) 1 = ((i + 1 : Nat) : Int) := by
  rw [ari_add, i64w (by omega)]
  omega
end Go.Proofs.YtjjeahnbppmigaaDoor
/- Of extent: contracts of functions that only read rows. No condition. -/
namespace Go.Proofs.YtjjeahnbppmigaaDoor
set_option linter.unusedSectionVars false
variable [Gh]
set_option maxRecDepth 100000
theorem Con.ro {E : Env} (hE : EnvOk E) {g : FuncId} {fn : Func} {c : Code} {l l' : List SV} {m ms : SMem} {q : List Prop} {s0 : SV} {A : SV → SMem → Prop} (h1 : E.fn g = some fn) (h2 : fn.body = some c) (hxs : ms.xs = []) (ι : Nat → Nat)
    (hm : ∀ i b, getB ms.bl i = some b → i < ms.next ∧ b.wr = false ∧ ∃ d, getB m.bl (ι i) = some d ∧ b.ty = d.ty ∧ ∀ R cs, d.arr.okM R cs → b.arr.okM (pull ι ms.next R) cs)
    (hl : ∀ R vs, All2 (SV.ok R) l vs → All2 (SV.ok (pull ι ms.next R)) l' vs) (good : (∀ p ∈ q, p) → Good E.P A ms.next [callFr g fn.ntmps l' c] ms)
    (hs : ∀ s m' R R' v, A s m' → s.ok R' v → s0.ok R v) : Con E g l m (needs q (.ret s0 m)) := by
  intro B hB
  obtain ⟨hq, hA⟩ := Tree.sat_needs hB
  refine ⟨fn, h1, by rw [h2]; rfl, fun n0 F w0 w R args ha hR => ?_⟩
  refine (frame_ro (hE.fns _ _ h1).1 h2 (good hq) hxs hm (hl R _ ha) hR).mono ?_
  rintro v w' ⟨k1, k2, s, m', R', k3, k4⟩
  exact ⟨s0, m, R, hA, ⟨fun _ _ h => h, fun _ _ h => .inl h, k2, Nat.le_refl _⟩, k1, hs _ _ _ _ _ k3 k4⟩
omit [Gh] in
theorem rwM_get {v : Bool} {cs : Array Value} {ty : TypeId} {i : Nat} {b : SBlk} (h : getB (rwM v cs ty).bl i = some b) : i = 0 ∧ b = ⟨rwA v cs, ty, false⟩ := by
  unfold getB rwM at h
  cases i with
  | zero => cases h; exact ⟨rfl, rfl⟩
  | succ i =>
    have h : ((Tr.node .nil (some ⟨rwA v cs, ty, false⟩) .nil : Tr SBlk)).get (i + 1) = some b := h
    rw [Tr.get_succ, Tr.get_nil, ite_self] at h
    cases h
noncomputable section
omit [Gh] in
def rowV (m : SMem) (i : Nat) : Option (Bool × Array Value) := match getB m.bl i with
  | some ⟨.raw cs, _, _⟩ => some (true, cs)
  | some ⟨.pop cs, _, _⟩ => some (false, cs)
  | _ => none
end
omit [Gh] in
theorem rowV_of {m : SMem} {i : Nat} {v : Bool} {cs : Array Value} (h : rowV m i = some (v, cs)) : ∃ ty wr, getB m.bl i = some ⟨rwA v cs, ty, wr⟩ := by
  unfold rowV at h
  split at h
  · rename_i e; cases h; exact ⟨_, _, e⟩
  · rename_i e; cases h; exact ⟨_, _, e⟩
  · cases h
theorem Con.ext {g : FuncId} {fn : Func} {c : Code} {m : SMem} {i : Nat} {v : Bool} {o n : SN} {cap : SK} {x : SI} {cs : Array Value} {r r' : List SV} {q : List Prop} {s0 : SV} {A : SV → SMem → Prop} (h1 : E0.fn g = some fn) (h2 : fn.body = some c) (hr : rowV m i = some (v, cs))
    (hrr : ∀ R R' vs, All2 (SV.ok R) r vs → All2 (SV.ok R') r' vs) (good : ∀ ty, (∀ p ∈ q, p) → Good Tryd.prog A 1 [callFr g fn.ntmps (extS o.den n.den x.den :: r') c] (rwM v cs ty)) (hs : ∀ s m' R R' u, A s m' → s.ok R' u → s0.ok R u) :
    Con E0 g (.s (.agg (.ls [.f (.slice i o n cap), .f (.int .i64 x)])) :: r) m (needs q (.ret s0 m)) := by
  obtain ⟨ty, wr, hb⟩ := rowV_of hr
  refine Con.ro E0_ok (l' := extS o.den n.den x.den :: r') (ms := rwM v cs ty) (A := A) h1 h2 rfl (fun _ => i) ?_ ?_ (good ty) hs
  · intro j b hj
    obtain ⟨rfl, rfl⟩ := rwM_get hj
    refine ⟨Nat.zero_lt_one, rfl, _, hb, rfl, fun R cs' h => ?_⟩
    cases v <;> exact h
  · intro R vs ha
    match vs, ha with
    | u :: us, ha =>
      obtain ⟨⟨ds, e, hd⟩, ht⟩ := ha
      refine ⟨⟨ds, e, ?_⟩, hrr _ _ _ ht⟩
      have hd : All2 (SC.ok R) [.f (.slice i o n cap), .f (.int .i64 x)] ds.toList := hd
      show All2 (SC.ok _) [.f (sl0 o.den n.den), .f (.int .i64 (.o x.den))] ds.toList
      generalize ds.toList = L at hd ⊢
      match L, hd with
      | [a, b], hd =>
        obtain ⟨⟨gl, cp, e1, e2, e3, e4⟩, hb2, _⟩ := hd
        exact ⟨⟨gl, cp, by unfold pull; exact e1, e2, trivial, e4⟩, hb2, trivial⟩
omit [Gh] in
theorem intR_ok {n : Int} {s : SV} {m' : SMem} {R R' : Ren} {v : Value} (h : intR n s m') (hv : s.ok R' v) : (i64 (.o n)).ok R v := by
  unfold intR at h
  split at h
  · have hv : v = .int .i64 _ := hv
    rw [hv, h]; rfl
  · exact h.elim
omit [Gh] in
theorem boolR_ok {b : Bool} {s : SV} {m' : SMem} {R R' : Ren} {v : Value} (h : boolR b s m') (hv : s.ok R' v) : (sB (.o b)).ok R v := by
  unfold boolR at h
  split at h
  · have hv : v = .bool _ := hv
    rw [hv, h]; rfl
  · exact h.elim
end Go.Proofs.YtjjeahnbppmigaaDoor
/- Of extent: Pages: its loop's states. No condition. -/
namespace Go.Proofs.YtjjeahnbppmigaaDoor
noncomputable section
def pgC (off n : Nat) (len : Int) : List SFr := [callFr 54 Tryd.f54.ntmps [extS off n len] (Tryd.f54.body.getD .skip)]
def pgR (off n : Nat) (len : Int) (cs : Array Value) (ty : TypeId) : Tree := run EX 1000 1 (pgC off n len) (rwM false cs ty)
def pgF (off n : Nat) (s i : Int) : List SFr := reTm [tmOf Tryd.f54.ntmps [(3, i64 (.o s)), (7, .s (.c (.f (sl0 off n)))), (8, i64 (.o n)), (9, i64 (.o i))]] (pgR 0 0 0 #[] 0).fsE
def pgS (off n : Nat) (cs : Array Value) (ty : TypeId) (s i : Int) : Tree := stepT EX.go (run EX 1000) 1 (headF (pgF off n s i)) (rwM false cs ty)
def pgN (h : Bool) (off n : Nat) (cs : Array Value) (ty : TypeId) (Q : Int → Int → Prop) (fs : List SFr) (m : SMem) : Prop := match fs with
  | f :: _ => match rdI f 3, rdI f 9 with
    | some s, some i => Q s i ∧ subOk 1 [] (hF h (pgF off n s i)) (rwM false cs ty) fs m
    | _, _ => False
  | [] => False
def pgT : List SIt := headTd (pgF 0 0 0 0)
def pgH : List SIt := headTd (headF (pgF 0 0 0 0))
end
end Go.Proofs.YtjjeahnbppmigaaDoor
/- Of extent: Pages: its loop's rounds, as propositions. No condition. -/
namespace Go.Proofs.YtjjeahnbppmigaaDoor
set_option maxRecDepth 100000
theorem pg_start (off n : Nat) (len : Int) (cs : Array Value) (ty : TypeId) (r : Int) (Q : Int → Int → Prop) : (pgR off n len cs ty).vc (intR r) (pgN false off n cs ty Q) =
    (Q (0 : Int) (0 : Int) ∧ CallKind.normal = CallKind.normal ∧ TodoOk (ren 1 []) pgT pgT ∧ (0 : Int) = (0 : Int) ∧ off = off ∧ n = n ∧ (0 : Int) = (0 : Int) ∧ (↑n : Int) = (↑n : Int) ∧ ty = ty ∧ cs = cs ∧ True) := by kernel_rfl
theorem pg_step (off n : Nat) (cs : Array Value) (ty : TypeId) (s i : Int) (r : Int) (Q : Int → Int → Prop) : (pgS off n cs ty s i).vc (intR r) (pgN true off n cs ty Q) =
    ((decide (i < (↑n : Int)) = true → (((0 : Int) ≤ i ∧ i < (↑n : Int)) ∧ True) ∧ (IsInt IntKind.i64 cs (off + Int.toNat i * 2) ∧ IsInt IntKind.i64 cs (off + Int.toNat i * 2 + 1) ∧ True) ∧ Q (ari BinOp.add IntKind.i64 s (intAt cs (off + Int.toNat i * 2 + 1))) (ari BinOp.add IntKind.i64 i (1 : Int)) ∧ CallKind.normal = CallKind.normal ∧ TodoOk (ren 1 []) pgH pgH ∧ ari BinOp.add IntKind.i64 s (intAt cs (off + Int.toNat i * 2 + 1)) = ari BinOp.add IntKind.i64 s (intAt cs (off + Int.toNat i * 2 + 1)) ∧ off = off ∧ n = n ∧ ari BinOp.add IntKind.i64 i (1 : Int) = ari BinOp.add IntKind.i64 i (1 : Int) ∧ (↑n : Int) = (↑n : Int) ∧ ty = ty ∧ cs = cs ∧ True) ∧ (decide (i < (↑n : Int)) = false → s = r)) := by kernel_rfl
end Go.Proofs.YtjjeahnbppmigaaDoor
/- Of extent: Pages: what it answers. No condition. -/
namespace Go.Proofs.YtjjeahnbppmigaaDoor
set_option linter.unusedSectionVars false
variable [Gh]
set_option maxRecDepth 100000
omit [Gh] in
theorem pgT_ok : TodoOk (ren 1 []) pgT pgT := TodoOk.same (by kernel_rfl)
omit [Gh] in
theorem pgH_ok : TodoOk (ren 1 []) pgH pgH := TodoOk.same (by kernel_rfl)
theorem pgN_good {h : Bool} {off n : Nat} {cs : Array Value} {ty : TypeId} {A : SV → SMem → Prop} {Q : Int → Int → Prop} {fs : List SFr} {m : SMem} (H : ∀ s i, Q s i → Good Tryd.prog A 1 (headF (pgF off n s i)) (rwM false cs ty)) (hb : pgN h off n cs ty Q fs m) : Good Tryd.prog A 1 fs m := by
  unfold pgN at hb
  split at hb
  · split at hb
    · exact hF_good hb.2 (H _ _ hb.1)
    · exact hb.elim
  · exact hb.elim
section
variable {off n : Nat} {cs : Array Value} (ty : TypeId) (h : PrOk cs off n) (hs : Small cs off n)
include h hs
theorem pg_round : ∀ k i : Nat, i + k = n → Good Tryd.prog (intR (sumN cs off n)) 1 (headF (pgF off n (sumN cs off i) i)) (rwM false cs ty) := by
  intro k
  induction k with
  | zero =>
    intro i hi
    obtain rfl : i = n := by omega
    refine past_vc EX_ok 1000 (pg_step off i cs ty (sumN cs off i) i (sumN cs off i) (fun _ _ => False)) ?_ (fun _ _ h => h) (fun fs m hb => pgN_good (fun _ _ h => h.elim) hb)
    refine ⟨fun hd => ?_, fun _ => rfl⟩
    have := of_decide_eq_true hd
    omega
  | succ k ih =>
    intro i hi
    have hi' : i < n := by omega
    have hle := h.le
    have h1 := sumN_le hs i (by omega)
    have h2 := hs i hi'
    refine past_vc EX_ok 1000 (pg_step off n cs ty (sumN cs off i) i (sumN cs off n) (fun s' i' => s' = sumN cs off (i + 1) ∧ i' = ((i + 1 : Nat) : Int))) ?_ (fun _ _ h => h)
      (fun fs m hb => pgN_good (fun s' i' ⟨e1, e2⟩ => by rw [e1, e2]; exact ih (i + 1) (by omega)) hb)
    have hN := next80 hi' hle
    have e : ari .add .i64 (sumN cs off i) (intAt cs (off + i * 2 + 1)) = sumN cs off (i + 1) := by
      rw [ari_add, i64w (by unfold nn0 at h2; omega)]
      rfl
    refine ⟨fun _ => ?_, fun hd => ?_⟩
    · simp only [Int.toNat_natCast, hN, e]
      refine ⟨⟨⟨by omega, by omega⟩, trivial⟩, ⟨h.a i hi', h.b i hi', trivial⟩, ?_⟩
      repeat' first | exact trivial | exact pgH_ok | exact rfl | apply And.intro
    · have := of_decide_eq_false hd
      omega
theorem pg_good (len : Int) : Good Tryd.prog (intR (sumN cs off n)) 1 (pgC off n len) (rwM false cs ty) := by
  refine run_vc EX_ok 1000 (pg_start off n len cs ty (sumN cs off n) (fun s i => s = 0 ∧ i = 0)) ?_ (fun _ _ h => h)
    (fun fs m hb => pgN_good (fun s i ⟨e1, e2⟩ => by rw [e1, e2]; exact pg_round ty h hs n 0 (by omega)) hb)
  repeat' first | exact trivial | exact pgT_ok | exact rfl | apply And.intro
end
theorem pg_con {m : SMem} {i : Nat} {o n : SN} {cap : SK} {x : SI} {cs : Array Value} (hr : rowV m i = some (false, cs)) :
    Con E0 54 [.s (.agg (.ls [.f (.slice i o n cap), .f (.int .i64 x)]))] m (needs [PrOk cs o.den n.den, Small cs o.den n.den] (.ret (i64 (.o (sumN cs o.den n.den))) m)) :=
  Con.ext (r' := []) (by kernel_rfl : E0.fn 54 = some Tryd.f54) (by kernel_rfl : Tryd.f54.body = some (Tryd.f54.body.getD .skip)) hr (fun _ _ vs h => match vs, h with | [], _ => trivial) (A := intR (sumN cs o.den n.den))
    (fun ty hq => pg_good ty (hq _ (by simp)) (hq _ (by simp)) x.den) (fun _ _ _ _ _ => intR_ok)
end Go.Proofs.YtjjeahnbppmigaaDoor
/- Of extent: May: its loop's states. No condition. -/
namespace Go.Proofs.YtjjeahnbppmigaaDoor
set_option linter.unusedSectionVars false
variable [Gh]
noncomputable section
omit [Gh] in
def pgV (m : SMem) (i : Nat) (o n : SN) : Option Tree := match rowV m i with
  | some (false, cs) => some (needs [PrOk cs o.den n.den, Small cs o.den n.den] (.ret (i64 (.o (sumN cs o.den n.den))) m))
  | _ => none
omit [Gh] in
def conY (g : FuncId) (l : List SV) (m : SMem) : Option Tree :=
  match g, l with
  | 54, [.s (.agg (.ls [.f (.slice i o n _), .f (.int .i64 _)]))] => pgV m i o n
  | g, l => conX g l m
omit [Gh] in
def EY : Env := ⟨Tryd.prog, fnOf, conY, fun _ _ x => isLoop x⟩
omit [Gh] in
def myC (off n : Nat) (len : Int) : List SFr := [callFr 36 Tryd.f36.ntmps [extS off n len] (Tryd.f36.body.getD .skip)]
omit [Gh] in
def myR (off n : Nat) (len : Int) (cs : Array Value) (ty : TypeId) : Tree := run EY 1000 1 (myC off n len) (rwM false cs ty)
omit [Gh] in
def u64 (x : Int) : SC := .f (.int .u64 (.o x))
omit [Gh] in
def myF (off n : Nat) (i : Int) : List SFr := reTm [tmOf Tryd.f36.ntmps [(1, ptr 1 (.l 0)), (3, ptr 2 (.l 0)), (10, .s (.c (.f (sl0 off n)))), (11, i64 (.o n)), (12, i64 (.o i))]] (myR 0 0 0 #[] 0).fsE
omit [Gh] in
def myM (off n : Nat) (len : Int) (cs : Array Value) (ty : TypeId) (x : Int) : SMem :=
  ⟨3, (((Tr.nil : Tr SBlk).set 0 (some ⟨.pop cs, ty, false⟩)).set 1 (some ⟨.ls [.f (sl0 off n), .f (.int .i64 (.o len))], 35, true⟩)).set 2 (some ⟨.ls [u64 x], 112, true⟩), []⟩
omit [Gh] in
def myS (off n : Nat) (len : Int) (cs : Array Value) (ty : TypeId) (x i : Int) : Tree := stepT EY.go (run EY 1000) 1 (headF (myF off n i)) (myM off n len cs ty x)
omit [Gh] in
def rdU (m : SMem) (id : Nat) : Option Int := match getB m.bl id with
  | some ⟨.ls [.f (.int .u64 x)], _, _⟩ => some x.den
  | _ => none
omit [Gh] in
def myN (h : Bool) (off n : Nat) (len : Int) (cs : Array Value) (ty : TypeId) (Q : Int → Int → Prop) (fs : List SFr) (m : SMem) : Prop := match fs with
  | f :: _ => match rdI f 12, rdP f 1, rdP f 3 with
    | some i, some p, some q => match rdU m q with
      | some x => Q x i ∧ subOk 1 [(1, p), (2, q)] (hF h (myF off n i)) (myM off n len cs ty x) fs m
      | none => False
    | _, _, _ => False
  | [] => False
omit [Gh] in
def myT : List SIt := headTd (myF 0 0 0)
omit [Gh] in
def myH : List SIt := headTd (headF (myF 0 0 0))
end
theorem conY_ok : ∀ g l m t, conY g l m = some t → Con E0 g l m t := by
  intro g l m t h
  unfold conY at h
  split at h
  · unfold pgV at h
    split at h
    · rename_i e; cases h; exact pg_con e
    · cases h
  · exact conX_ok _ _ _ _ h
theorem EY_ok : EnvOk EY := EnvOk.with E0_ok _ _ conY_ok
end Go.Proofs.YtjjeahnbppmigaaDoor
/- Of extent: May: its loop's rounds, as propositions. No condition. -/
namespace Go.Proofs.YtjjeahnbppmigaaDoor
set_option maxRecDepth 100000
theorem my_start (off n : Nat) (len : Int) (cs : Array Value) (ty : TypeId) (r : Bool) (Q : Int → Int → Prop) : (myR off n len cs ty).vc (boolR r) (myN false off n len cs ty Q) =
    (Q (18446744073709551615 : Int) (0 : Int) ∧ CallKind.normal = CallKind.normal ∧ TodoOk (ren 1 [(1, 1), (2, 2)]) myT myT ∧ (↑n : Int) = (↑n : Int) ∧ (0 : Int) = (0 : Int) ∧ off = off ∧ n = n ∧ ty = ty ∧ cs = cs ∧ (35 : TypeId) = (35 : Nat) ∧ off = off ∧ n = n ∧ len = len ∧ (112 : TypeId) = (112 : Nat) ∧ (18446744073709551615 : Int) = (18446744073709551615 : Int) ∧ True) := by kernel_rfl
theorem my_step (off n : Nat) (len : Int) (cs : Array Value) (ty : TypeId) (x i : Int) (r : Bool) (Q : Int → Int → Prop) : (myS off n len cs ty x i).vc (boolR r) (myN true off n len cs ty Q) =
    ((decide (i < (↑n : Int)) = true → (((0 : Int) ≤ i ∧ i < (↑n : Int)) ∧ True) ∧ (IsInt IntKind.i64 cs (off + Int.toNat i * 2) ∧ IsInt IntKind.i64 cs (off + Int.toNat i * 2 + 1) ∧ True) ∧ (uw (BitVec.ofInt (64 : Nat) x) = x ∧ True) ∧ ((!takeOk (BitVec.ofInt (64 : Nat) x) (intAt cs (off + Int.toNat i * 2)) (intAt cs (off + Int.toNat i * 2 + 1))) = true → false = r) ∧ ((!takeOk (BitVec.ofInt (64 : Nat) x) (intAt cs (off + Int.toNat i * 2)) (intAt cs (off + Int.toNat i * 2 + 1))) = false → Q (uw (takeW (BitVec.ofInt (64 : Nat) x) (intAt cs (off + Int.toNat i * 2)) (intAt cs (off + Int.toNat i * 2 + 1)))) (ari BinOp.add IntKind.i64 i (1 : Int)) ∧ CallKind.normal = CallKind.normal ∧ TodoOk (ren 1 [(1, 1), (2, 2)]) myH myH ∧ (↑n : Int) = (↑n : Int) ∧ ari BinOp.add IntKind.i64 i (1 : Int) = ari BinOp.add IntKind.i64 i (1 : Int) ∧ off = off ∧ n = n ∧ ty = ty ∧ cs = cs ∧ (35 : TypeId) = (35 : TypeId) ∧ off = off ∧ n = n ∧ len = len ∧ (112 : TypeId) = (112 : TypeId) ∧ uw (takeW (BitVec.ofInt (64 : Nat) x) (intAt cs (off + Int.toNat i * 2)) (intAt cs (off + Int.toNat i * 2 + 1))) = uw (takeW (BitVec.ofInt (64 : Nat) x) (intAt cs (off + Int.toNat i * 2)) (intAt cs (off + Int.toNat i * 2 + 1))) ∧ True)) ∧ (decide (i < (↑n : Int)) = false → ((decide (len ≥ (0 : Int)) == true) = true → (PrOk cs off n ∧ Small cs off n ∧ True) ∧ decide (len ≤ ari BinOp.mul IntKind.i64 (sumN cs off n) (32 : Int)) = r) ∧ ((decide (len ≥ (0 : Int)) == true) = false → false = r))) := by kernel_rfl
end Go.Proofs.YtjjeahnbppmigaaDoor
/- Of extent: May: what it answers. No condition. -/
namespace Go.Proofs.YtjjeahnbppmigaaDoor
set_option linter.unusedSectionVars false
variable [Gh]
set_option maxRecDepth 100000
omit [Gh] in
def tkW (cs : Array Value) (off : Nat) : Nat → BitVec 64
  | 0 => BitVec.allOnes 64
  | i + 1 => takeW (tkW cs off i) (at0 cs off i) (nn0 cs off i)
omit [Gh] in
def tkOk (cs : Array Value) (off : Nat) : Nat → Bool
  | 0 => true
  | i + 1 => tkOk cs off i && takeOk (tkW cs off i) (at0 cs off i) (nn0 cs off i)
omit [Gh] in
def mayE (cs : Array Value) (off n : Nat) (len : Int) : Bool := tkOk cs off n && (decide (0 ≤ len) && decide (len ≤ 32 * sumN cs off n))
omit [Gh] in
theorem tkOk_mono {cs : Array Value} {off : Nat} : ∀ {n i : Nat}, i ≤ n → tkOk cs off n = true → tkOk cs off i = true
  | 0, i, h, k => by
    obtain rfl : i = 0 := by omega
    exact k
  | n + 1, i, h, k => by
    by_cases e : i = n + 1
    · rw [e]; exact k
    · unfold tkOk at k
      rw [Bool.and_eq_true] at k
      exact tkOk_mono (by omega) k.1
omit [Gh] in
theorem takeOk_may {X : BitVec 64} {p n : Int} (h : takeOk X p n = true) : 1 ≤ n ∧ 0 ≤ p ∧ p < 64 ∧ n ≤ 64 - p := by
  unfold takeOk at h
  rw [Bool.and_eq_true] at h
  exact mayB_iff.1 h.1
omit [Gh] in
theorem tkOk_one {cs : Array Value} {off n i : Nat} (h : tkOk cs off n = true) (hi : i < n) : takeOk (tkW cs off i) (at0 cs off i) (nn0 cs off i) = true := by
  have := tkOk_mono (i := i + 1) (by omega) h
  unfold tkOk at this
  rw [Bool.and_eq_true] at this
  exact this.2
omit [Gh] in
theorem tkOk_small {cs : Array Value} {off n : Nat} (h : tkOk cs off n = true) : Small cs off n := fun i hi => by
  have := takeOk_may (tkOk_one h hi)
  omega
omit [Gh] in
theorem mayE_iff {cs : Array Value} {off n : Nat} {len : Int} : mayE cs off n len = true ↔ tkOk cs off n = true ∧ 0 ≤ len ∧ len ≤ 32 * sumN cs off n := by
  unfold mayE
  simp only [Bool.and_eq_true, decide_eq_true_eq]
omit [Gh] in
theorem ofInt_uw' (X : BitVec 64) : BitVec.ofInt 64 (uw X) = X := ofInt_uw X
omit [Gh] in
theorem myT_ok : TodoOk (ren 1 [(1, 1), (2, 2)]) myT myT := TodoOk.same (by kernel_rfl)
omit [Gh] in
theorem myH_ok : TodoOk (ren 1 [(1, 1), (2, 2)]) myH myH := TodoOk.same (by kernel_rfl)
theorem myN_good {h : Bool} {off n : Nat} {len : Int} {cs : Array Value} {ty : TypeId} {A : SV → SMem → Prop} {Q : Int → Int → Prop} {fs : List SFr} {m : SMem} (H : ∀ x i, Q x i → Good Tryd.prog A 1 (headF (myF off n i)) (myM off n len cs ty x)) (hb : myN h off n len cs ty Q fs m) : Good Tryd.prog A 1 fs m := by
  unfold myN at hb
  split at hb
  · split at hb
    · split at hb
      · exact hF_good hb.2 (H _ _ hb.1)
      · exact hb.elim
    · exact hb.elim
  · exact hb.elim
section
variable {off n : Nat} {cs : Array Value} (ty : TypeId) (len : Int) (h : PrOk cs off n)
include h
theorem my_round : ∀ k i : Nat, i + k = n → tkOk cs off i = true → Good Tryd.prog (boolR (mayE cs off n len)) 1 (headF (myF off n i)) (myM off n len cs ty (uw (tkW cs off i))) := by
  intro k
  induction k with
  | zero =>
    intro i hi hk
    obtain rfl : i = n := by omega
    have hs := tkOk_small hk
    refine past_vc EY_ok 1000 (my_step off i len cs ty (uw (tkW cs off i)) i (mayE cs off i len) (fun _ _ => False)) ?_ (fun _ _ h => h) (fun fs m hb => myN_good (fun _ _ h => h.elim) hb)
    have hsum := sumN_le hs i (Nat.le_refl _)
    have hle := h.le
    refine ⟨fun hd => ?_, fun _ => ⟨fun hl => ⟨⟨h, hs, trivial⟩, ?_⟩, fun hl => ?_⟩⟩
    · have := of_decide_eq_true hd
      omega
    · have hl : 0 ≤ len := by simpa using hl
      rw [ari_mul, i64w (by omega)]
      unfold mayE
      rw [hk, Bool.true_and, decide_eq_true hl, Bool.true_and, Int.mul_comm]
    · have hl : ¬ 0 ≤ len := by simpa using hl
      unfold mayE
      rw [decide_eq_false hl, Bool.false_and, Bool.and_false]
  | succ k ih =>
    intro i hi hk
    have hi' : i < n := by omega
    have hN := next80 hi' h.le
    refine past_vc EY_ok 1000 (my_step off n len cs ty (uw (tkW cs off i)) i (mayE cs off n len) (fun x' i' => x' = uw (tkW cs off (i + 1)) ∧ i' = ((i + 1 : Nat) : Int) ∧ tkOk cs off (i + 1) = true)) ?_ (fun _ _ h => h)
      (fun fs m hb => myN_good (fun x' i' ⟨e1, e2, e3⟩ => by rw [e1, e2]; exact ih (i + 1) (by omega) e3) hb)
    refine ⟨fun _ => ?_, fun hd => ?_⟩
    · simp only [Int.toNat_natCast, hN, ofInt_uw']
      have ea : intAt cs (off + i * 2) = at0 cs off i := rfl
      have eb : intAt cs (off + i * 2 + 1) = nn0 cs off i := rfl
      simp only [ea, eb]
      refine ⟨⟨⟨by omega, by omega⟩, trivial⟩, ⟨h.a i hi', h.b i hi', trivial⟩, ⟨trivial, trivial⟩, fun hf => ?_, fun ht => ?_⟩
      · have hf : takeOk (tkW cs off i) (at0 cs off i) (nn0 cs off i) = false := by simpa using hf
        cases e : mayE cs off n len with
        | false => rfl
        | true =>
          have := tkOk_one (mayE_iff.1 e).1 hi'
          rw [hf] at this
          cases this
      · have ht : takeOk (tkW cs off i) (at0 cs off i) (nn0 cs off i) = true := by simpa using ht
        have hk' : tkOk cs off (i + 1) = true := by unfold tkOk; rw [hk, ht]; rfl
        repeat' first | exact trivial | exact hk' | exact myH_ok | exact rfl | apply And.intro
    · have := of_decide_eq_false hd
      omega
theorem my_good : Good Tryd.prog (boolR (mayE cs off n len)) 1 (myC off n len) (rwM false cs ty) := by
  refine run_vc EY_ok 1000 (my_start off n len cs ty (mayE cs off n len) (fun x i => x = uw (tkW cs off 0) ∧ i = 0)) ?_ (fun _ _ h => h)
    (fun fs m hb => myN_good (fun x i ⟨e1, e2⟩ => by rw [e1, e2]; exact my_round ty len h n 0 (by omega) rfl) hb)
  repeat' first | exact trivial | exact myT_ok | exact rfl | apply And.intro
end
theorem my_con {m : SMem} {i : Nat} {o n : SN} {cap : SK} {x : SI} {cs : Array Value} (hr : rowV m i = some (false, cs)) :
    Con E0 36 [.s (.agg (.ls [.f (.slice i o n cap), .f (.int .i64 x)]))] m (needs [PrOk cs o.den n.den] (.ret (sB (.o (mayE cs o.den n.den x.den))) m)) :=
  Con.ext (r' := []) (by kernel_rfl : E0.fn 36 = some Tryd.f36) (by kernel_rfl : Tryd.f36.body = some (Tryd.f36.body.getD .skip)) hr (fun _ _ vs h => match vs, h with | [], _ => trivial) (A := boolR (mayE cs o.den n.den x.den))
    (fun ty hq => my_good ty x.den (hq _ (by simp))) (fun _ _ _ _ _ => boolR_ok)
end Go.Proofs.YtjjeahnbppmigaaDoor
/- Of extent: Of: its loop's states. No condition. -/
namespace Go.Proofs.YtjjeahnbppmigaaDoor
noncomputable section
def setW (w : Bool) (i : Nat) (b : SBlk) (t : Tr SBlk) : Tr SBlk := cond w (t.set i (some b)) t
def ofC (off n : Nat) (L : Int) : List SFr := [callFr 37 Tryd.f37.ntmps [extS off n L] (Tryd.f37.body.getD .skip)]
def ofR (off n : Nat) (L : Int) (cs : Array Value) (ty : TypeId) : Tree := run EX 1000 1 (ofC off n L) (rwM true cs ty)
def prV (w : Bool) (l : Nat) : SF := cond w (.slice 4 (.l 0) (.o l) (.full 2)) (.lit (.slice none 0 0))
def ofF (i : Int) : List SFr := reTm [tmOf Tryd.f37.ntmps [(1, ptr 1 (.l 0)), (2, ptr 2 (.l 0)), (3, ptr 3 (.l 0)), (4, i64 (.o i))]] ((ofR 0 0 0 #[] 0).fsAt 3)
def ofM (w : Bool) (off n : Nat) (L : Int) (cs : Array Value) (ty : TypeId) (l : Nat) (bs : Array Value) : SMem :=
  ⟨5, setW w 4 ⟨.pop bs, 89, true⟩ (((((Tr.nil : Tr SBlk).set 0 (some ⟨.raw cs, ty, false⟩)).set 1 (some ⟨.ls [.f (sl0 off n), .f (.int .i64 (.o L))], 49, true⟩)).set 2 (some ⟨.ls [.f (.lit (.slice none 0 0)), .f (.int .i64 (.l 0))], 35, true⟩)).set 3 (some ⟨.ls [.f (prV w l), .f (.int .i64 (.o L))], 35, true⟩)), []⟩
def ofS (w : Bool) (off n : Nat) (L : Int) (cs : Array Value) (ty : TypeId) (l : Nat) (bs : Array Value) (i : Int) : Tree := stepT EX.go (run EX 1000) 1 (headF (ofF i)) (ofM w off n L cs ty l bs)
def rdO (m : SMem) (id : Nat) : Option (Option (Nat × Nat × Array Value)) := match getB m.bl id with
  | some ⟨.ls [.f (.lit (.slice none 0 0)), _], _, _⟩ => some none
  | some ⟨.ls [.f (.slice sid _ k _), _], _, _⟩ => match rdA m sid with
    | some cs => some (some (sid, k.den, cs))
    | none => none
  | _ => none
def ofN (h : Bool) (off n : Nat) (L : Int) (cs : Array Value) (ty : TypeId) (Q : Bool → Int → Nat → Array Value → Prop) (fs : List SFr) (m : SMem) : Prop := match fs with
  | f :: _ => match rdI f 4, rdP f 1, rdP f 2, rdP f 3 with
    | some i, some p, some q, some r => match rdO m r with
      | some none => Q false i 0 #[] ∧ subOk 1 [(1, p), (2, q), (3, r)] (hF h (ofF i)) (ofM false off n L cs ty 0 #[]) fs m
      | some (some (sid, l, bs)) => Q true i l bs ∧ subOk 1 [(1, p), (2, q), (3, r), (4, sid)] (hF h (ofF i)) (ofM true off n L cs ty l bs) fs m
      | none => False
    | _, _, _, _ => False
  | [] => False
def ofRet (l : Nat) (L : Int) (bs : Array Value) (s : SV) (m : SMem) : Prop := match s with
  | .s (.agg (.ls [.f (.slice sid _ _ _), _])) => retOk 1 [(1, sid)] (.s (.agg (.ls [.f (.slice 1 (.l 0) (.o l) .any), .f (.int .i64 (.o L))]))) ⟨2, Tr.nil.set 1 (some ⟨.pop bs, 89, true⟩), []⟩ s m
  | _ => False
def ofT : List SIt := headTd (ofF 0)
def ofH : List SIt := headTd (headF (ofF 0))
end
end Go.Proofs.YtjjeahnbppmigaaDoor
/- Of extent: Of: its loop's rounds; Needs; as propositions. No condition. -/
namespace Go.Proofs.YtjjeahnbppmigaaDoor
set_option maxRecDepth 100000
theorem of_start (off n : Nat) (L : Int) (cs : Array Value) (ty : TypeId) (rl : Nat) (rb : Array Value) (Q : Bool → Int → Nat → Array Value → Prop) : (ofR off n L cs ty).vc (ofRet rl L rb) (ofN false off n L cs ty Q) =
    (Q false (0 : Int) (0 : Nat) #[] ∧ CallKind.normal = CallKind.normal ∧ TodoOk (ren 1 [(1, 1), (2, 2), (3, 3)]) ofT ofT ∧ (0 : Int) = (0 : Int) ∧ ty = ty ∧ cs = cs ∧ (49 : TypeId) = (49 : Nat) ∧ off = off ∧ n = n ∧ L = L ∧ (35 : TypeId) = (35 : Nat) ∧ Value.slice none (0 : Nat) (0 : Nat) = Value.slice none (0 : Nat) (0 : Nat) ∧ L = L ∧ (35 : TypeId) = (35 : Nat) ∧ Value.slice none (0 : Nat) (0 : Nat) = Value.slice none (0 : Nat) (0 : Nat) ∧ True) := by kernel_rfl
theorem of_s0 (off n : Nat) (L : Int) (cs : Array Value) (ty : TypeId) (i : Int) (rl : Nat) (rb : Array Value) (Q : Bool → Int → Nat → Array Value → Prop) : (ofS false off n L cs ty 0 #[] i).vc (ofRet rl L rb) (ofN true off n L cs ty Q) =
    ((decide (i < (↑n : Int)) = true → (((0 : Int) ≤ i ∧ i < (↑n : Int)) ∧ True) ∧ (IsInt IntKind.i64 cs (off + Int.toNat i * 2) ∧ True) ∧ (((0 : Int) ≤ i ∧ i < (↑n : Int)) ∧ True) ∧ (IsInt IntKind.i64 cs (off + Int.toNat i * 2 + 1) ∧ True) ∧ Q true (ari BinOp.add IntKind.i64 i (1 : Int)) (1 : Nat) #[Value.int IntKind.i64 (intAt cs (off + Int.toNat i * 2)), Value.int IntKind.i64 (intAt cs (off + Int.toNat i * 2 + 1))] ∧ CallKind.normal = CallKind.normal ∧ TodoOk (ren 1 [(1, 1), (2, 2), (3, 3), (4, 6)]) ofH ofH ∧ ari BinOp.add IntKind.i64 i (1 : Int) = ari BinOp.add IntKind.i64 i (1 : Int) ∧ ty = ty ∧ cs = cs ∧ (49 : TypeId) = (49 : TypeId) ∧ off = off ∧ n = n ∧ L = L ∧ (35 : TypeId) = (35 : TypeId) ∧ (1 : Nat) = (1 : Nat) ∧ L = L ∧ (35 : TypeId) = (35 : TypeId) ∧ Value.slice none (0 : Nat) (0 : Nat) = Value.slice none (0 : Nat) (0 : Nat) ∧ (89 : TypeId) = (89 : Nat) ∧ #[Value.int IntKind.i64 (intAt cs (off + Int.toNat i * 2)), Value.int IntKind.i64 (intAt cs (off + Int.toNat i * 2 + 1))] = #[Value.int IntKind.i64 (intAt cs (off + Int.toNat i * 2)), Value.int IntKind.i64 (intAt cs (off + Int.toNat i * 2 + 1))] ∧ True) ∧ (decide (i < (↑n : Int)) = false → False)) := by kernel_rfl
theorem of_s1 (off n : Nat) (L : Int) (cs : Array Value) (ty : TypeId) (l : Nat) (bs : Array Value) (i : Int) (rl : Nat) (rb : Array Value) (Q : Bool → Int → Nat → Array Value → Prop) : (ofS true off n L cs ty l bs i).vc (ofRet rl L rb) (ofN true off n L cs ty Q) =
    ((decide (i < (↑n : Int)) = true → (((0 : Int) ≤ i ∧ i < (↑n : Int)) ∧ True) ∧ (IsInt IntKind.i64 cs (off + Int.toNat i * 2) ∧ True) ∧ (((0 : Int) ≤ i ∧ i < (↑n : Int)) ∧ True) ∧ (IsInt IntKind.i64 cs (off + Int.toNat i * 2 + 1) ∧ True) ∧ (((l + 1) * 16 ≤ (140737488355328 : Nat) ∧ l + 1 ≤ (140737488355328 : Nat)) ∧ l * 2 = Array.size bs ∧ True) ∧ Q true (ari BinOp.add IntKind.i64 i (1 : Int)) (l + 1) (bs ++ #[Value.int IntKind.i64 (intAt cs (off + Int.toNat i * 2)), Value.int IntKind.i64 (intAt cs (off + Int.toNat i * 2 + 1))]) ∧ CallKind.normal = CallKind.normal ∧ TodoOk (ren 1 [(1, 1), (2, 2), (3, 3), (4, 6)]) ofH ofH ∧ ari BinOp.add IntKind.i64 i (1 : Int) = ari BinOp.add IntKind.i64 i (1 : Int) ∧ ty = ty ∧ cs = cs ∧ (49 : TypeId) = (49 : TypeId) ∧ off = off ∧ n = n ∧ L = L ∧ (35 : TypeId) = (35 : TypeId) ∧ l + 1 = l + 1 ∧ L = L ∧ (35 : TypeId) = (35 : TypeId) ∧ Value.slice none (0 : Nat) (0 : Nat) = Value.slice none (0 : Nat) (0 : Nat) ∧ (89 : TypeId) = (89 : Nat) ∧ bs ++ #[Value.int IntKind.i64 (intAt cs (off + Int.toNat i * 2)), Value.int IntKind.i64 (intAt cs (off + Int.toNat i * 2 + 1))] = bs ++ #[Value.int IntKind.i64 (intAt cs (off + Int.toNat i * 2)), Value.int IntKind.i64 (intAt cs (off + Int.toNat i * 2 + 1))] ∧ True) ∧ (decide (i < (↑n : Int)) = false → rl = l ∧ L = L ∧ (89 : TypeId) = (89 : TypeId) ∧ rb = bs ∧ True)) := by kernel_rfl
end Go.Proofs.YtjjeahnbppmigaaDoor
/- Of extent: Of, and Needs: what they answer. No condition. -/
namespace Go.Proofs.YtjjeahnbppmigaaDoor
set_option linter.unusedSectionVars false
variable [Gh]
set_option maxRecDepth 100000
omit [Gh] in
def prsL (cs : Array Value) (off : Nat) : Nat → List Value
  | 0 => []
  | i + 1 => prsL cs off i ++ [.int .i64 (at0 cs off i), .int .i64 (nn0 cs off i)]
omit [Gh] in
theorem prsL_len (cs : Array Value) (off : Nat) : ∀ n, (prsL cs off n).length = n * 2
  | 0 => rfl
  | n + 1 => by unfold prsL; rw [List.length_append, prsL_len cs off n]; simp; omega
omit [Gh] in
theorem prsL_at (cs : Array Value) (off : Nat) : ∀ {n i : Nat}, i < n → (prsL cs off n)[i * 2]? = some (.int .i64 (at0 cs off i)) ∧ (prsL cs off n)[i * 2 + 1]? = some (.int .i64 (nn0 cs off i))
  | 0, i, h => by omega
  | n + 1, i, h => by
    have hl := prsL_len cs off n
    unfold prsL
    by_cases e : i = n
    · subst e
      rw [List.getElem?_append_right (by omega), List.getElem?_append_right (by omega), hl, show i * 2 - i * 2 = 0 by omega, show i * 2 + 1 - i * 2 = 1 by omega]
      exact ⟨rfl, rfl⟩
    · rw [List.getElem?_append_left (by omega), List.getElem?_append_left (by omega)]
      exact prsL_at cs off (by omega)
omit [Gh] in
def prsA (cs : Array Value) (off n : Nat) : Array Value := (prsL cs off n).toArray
omit [Gh] in
theorem is_of {cs : Array Value} {p : Nat} {k : IntKind} {n : Int} (h : cs[p]? = some (.int k n)) : intAt cs p = n ∧ IsInt k cs p := by
  have e : intAt cs p = n := by unfold intAt; rw [h]
  refine ⟨e, ?_⟩
  unfold IsInt
  rw [e]
  exact h
section
variable {cs : Array Value} {off n : Nat}
omit [Gh] in
theorem prsA_at {i : Nat} (h : i < n) : at0 (prsA cs off n) 0 i = at0 cs off i ∧ nn0 (prsA cs off n) 0 i = nn0 cs off i ∧ IsInt .i64 (prsA cs off n) (0 + i * 2) ∧ IsInt .i64 (prsA cs off n) (0 + i * 2 + 1) := by
  obtain ⟨h1, h2⟩ := prsL_at cs off h
  have k1 : (prsA cs off n)[0 + i * 2]? = some (.int .i64 (at0 cs off i)) := by unfold prsA; rw [Nat.zero_add, List.getElem?_toArray]; exact h1
  have k2 : (prsA cs off n)[0 + i * 2 + 1]? = some (.int .i64 (nn0 cs off i)) := by unfold prsA; rw [Nat.zero_add, List.getElem?_toArray]; exact h2
  exact ⟨(is_of k1).1, (is_of k2).1, (is_of k1).2, (is_of k2).2⟩
omit [Gh] in
theorem prsA_ok (hn : n ≤ 80) : PrOk (prsA cs off n) 0 n := ⟨by unfold prsA; rw [List.size_toArray, prsL_len]; omega, hn, fun i hi => (prsA_at hi).2.2.1, fun i hi => (prsA_at hi).2.2.2⟩
omit [Gh] in
theorem prsA_sum : ∀ k, k ≤ n → sumN (prsA cs off n) 0 k = sumN cs off k
  | 0, _ => rfl
  | k + 1, h => by
    show sumN _ _ k + nn0 _ _ k = sumN cs off k + nn0 cs off k
    rw [prsA_sum k (by omega), (prsA_at (n := n) (show k < n by omega)).2.1]
omit [Gh] in
theorem prsA_tkW : ∀ k, k ≤ n → tkW (prsA cs off n) 0 k = tkW cs off k
  | 0, _ => rfl
  | k + 1, h => by
    show takeW _ _ _ = takeW _ _ _
    rw [prsA_tkW k (by omega), (prsA_at (n := n) (show k < n by omega)).1, (prsA_at (n := n) (show k < n by omega)).2.1]
omit [Gh] in
theorem prsA_tkOk : ∀ k, k ≤ n → tkOk (prsA cs off n) 0 k = tkOk cs off k
  | 0, _ => rfl
  | k + 1, h => by
    show (tkOk _ _ k && takeOk _ _ _) = (tkOk _ _ k && takeOk _ _ _)
    rw [prsA_tkOk k (by omega), prsA_tkW k (by omega), (prsA_at (n := n) (show k < n by omega)).1, (prsA_at (n := n) (show k < n by omega)).2.1]
omit [Gh] in
theorem prsA_may (L : Int) : mayE (prsA cs off n) 0 n L = mayE cs off n L := by
  unfold mayE
  rw [prsA_tkOk n (Nat.le_refl _), prsA_sum n (Nat.le_refl _)]

end
omit [Gh] in
theorem ofT_ok : TodoOk (ren 1 [(1, 1), (2, 2), (3, 3)]) ofT ofT := TodoOk.same (by kernel_rfl)
omit [Gh] in
theorem ofH_ok : TodoOk (ren 1 [(1, 1), (2, 2), (3, 3), (4, 6)]) ofH ofH := TodoOk.same (by kernel_rfl)
theorem ofN_good {h : Bool} {off n : Nat} {L : Int} {cs : Array Value} {ty : TypeId} {A : SV → SMem → Prop} {Q : Bool → Int → Nat → Array Value → Prop} {fs : List SFr} {m : SMem} (H : ∀ w i l bs, Q w i l bs → Good Tryd.prog A 1 (headF (ofF i)) (ofM w off n L cs ty l bs)) (hb : ofN h off n L cs ty Q fs m) : Good Tryd.prog A 1 fs m := by
  unfold ofN at hb
  split at hb
  · split at hb
    · split at hb
      · exact hF_good hb.2 (H _ _ _ _ hb.1)
      · exact hF_good hb.2 (H _ _ _ _ hb.1)
      · exact hb.elim
    · exact hb.elim
  · exact hb.elim
section
variable {off n : Nat} {cs : Array Value} (ty : TypeId) (L : Int) (h : PrOk cs off n)
include h
theorem of_round : ∀ k i : Nat, i + k = n → 1 ≤ i → Good Tryd.prog (ofRet n L (prsA cs off n)) 1 (headF (ofF i)) (ofM true off n L cs ty i (prsA cs off i)) := by
  have hle := h.le
  intro k
  induction k with
  | zero =>
    intro i hi h1
    obtain rfl : i = n := by omega
    refine past_vc EX_ok 1000 (of_s1 off i L cs ty i (prsA cs off i) i i (prsA cs off i) (fun _ _ _ _ => False)) ?_ (fun _ _ h => h) (fun fs m hb => ofN_good (fun _ _ _ _ h => h.elim) hb)
    refine ⟨fun hd => ?_, fun _ => ⟨rfl, rfl, rfl, rfl, trivial⟩⟩
    have := of_decide_eq_true hd
    omega
  | succ k ih =>
    intro i hi h1
    have hi' : i < n := by omega
    have hN := next80 hi' hle
    have hmore : prsA cs off i ++ #[Value.int .i64 (intAt cs (off + i * 2)), Value.int .i64 (intAt cs (off + i * 2 + 1))] = prsA cs off (i + 1) := by
      unfold prsA
      show _ = (prsL cs off i ++ [Value.int .i64 (at0 cs off i), Value.int .i64 (nn0 cs off i)]).toArray
      rw [← List.append_toArray]
      rfl
    have hsz : i * 2 = (prsA cs off i).size := by unfold prsA; rw [List.size_toArray, prsL_len]
    refine past_vc EX_ok 1000 (of_s1 off n L cs ty i (prsA cs off i) i n (prsA cs off n) (fun w i' l bs => w = true ∧ i' = ((i + 1 : Nat) : Int) ∧ l = i + 1 ∧ bs = prsA cs off (i + 1))) ?_ (fun _ _ h => h)
      (fun fs m hb => ofN_good (fun w i' l bs ⟨e1, e2, e3, e4⟩ => by rw [e1, e2, e3, e4]; exact ih (i + 1) (by omega) (by omega)) hb)
    have hij : ((0 : Int) ≤ (i : Int) ∧ (i : Int) < (n : Int)) ∧ True := ⟨⟨by omega, by omega⟩, trivial⟩
    refine ⟨fun _ => ?_, fun hd => ?_⟩
    · simp only [Int.toNat_natCast, hN, hmore]
      have hTH := ofH_ok
      refine ⟨hij, ⟨h.a i hi', trivial⟩, hij, ⟨h.b i hi', trivial⟩, ⟨⟨by omega, by omega⟩, hsz, trivial⟩, ?_⟩
      repeat' first | exact hTH | exact trivial | exact rfl | apply And.intro
    · have := of_decide_eq_false hd
      omega
theorem of_good (hn : n ≠ 0) : Good Tryd.prog (fun s m' => s = .s (.agg (.ls [.f (.slice 1 (.l 0) (.o n) .any), .f (.int .i64 (.o L))])) ∧ m' = ⟨2, Tr.nil.set 1 (some ⟨.pop (prsA cs off n), 89, true⟩), []⟩) 1 (ofC off n L) (rwM true cs ty) := by
  have hle := h.le
  refine Good.retX (Good.mono (run_vc EX_ok 1000 (of_start off n L cs ty n (prsA cs off n) (fun w i l bs => w = false ∧ i = 0 ∧ l = 0 ∧ bs = #[])) ?_ (fun _ _ h => h)
    (fun fs m hb => ofN_good (fun w i l bs ⟨e1, e2, e3, e4⟩ => by
      rw [e1, e2, e3, e4]
      refine past_vc EX_ok 1000 (of_s0 off n L cs ty 0 n (prsA cs off n) (fun w i' l bs => w = true ∧ i' = ((1 : Nat) : Int) ∧ l = 1 ∧ bs = prsA cs off 1)) ?_ (fun _ _ h => h)
        (fun fs m hb => ofN_good (fun w i' l bs ⟨e1, e2, e3, e4⟩ => by rw [e1, e2, e3, e4]; exact of_round ty L h (n - 1) 1 (by omega) (by omega)) hb)
      have hTH := ofH_ok
      have a0 := h.a 0 (by omega)
      have b0 := h.b 0 (by omega)
      refine ⟨fun _ => ⟨⟨⟨by omega, by omega⟩, trivial⟩, ⟨a0, trivial⟩, ⟨⟨by omega, by omega⟩, trivial⟩, ⟨b0, trivial⟩, ⟨rfl, rfl, rfl, rfl⟩, rfl, hTH, ?_⟩, fun hd => ?_⟩
      · repeat' first | exact trivial | exact rfl | apply And.intro
      · have := of_decide_eq_false hd
        omega) hb)) ?_)
  · have hT := ofT_ok
    repeat' first | exact hT | exact trivial | exact rfl | apply And.intro
  · intro s m h
    unfold ofRet at h
    split at h
    · exact ⟨_, h⟩
    · exact h.elim
end
theorem ofx_con {m : SMem} {i : Nat} {o n : SN} {cap : SK} {x : SI} {cs : Array Value} (hr : rowV m i = some (true, cs)) :
    Con E0 37 [.s (.agg (.ls [.f (.slice i o n cap), .f (.int .i64 x)]))] m (needs [PrOk cs o.den n.den, n.den ≠ 0]
      (.ret (.s (.agg (.ls [.f (.slice m.next (.l 0) (.o n.den) .any), .f (.int .i64 (.o x.den))]))) (m.new (.pop (prsA cs o.den n.den)) 89))) := by
  obtain ⟨ty, wr, hb⟩ := rowV_of hr
  intro A hs
  obtain ⟨hq, hA⟩ := Tree.sat_needs hs
  refine ⟨Tryd.f37, (by kernel_rfl : E0.fn 37 = some Tryd.f37), by rw [(by kernel_rfl : Tryd.f37.body = some (Tryd.f37.body.getD .skip))]; rfl, fun n0 F w0 w R args ha hR => ?_⟩
  obtain ⟨gx, ds, fz, k1, _⟩ := hR.blk _ _ hb
  have hlt := hR.nx _ _ k1
  have hl' : All2 (SV.ok (pull (fun _ => i) 1 R)) [extS o.den n.den x.den] args.toList := by
    revert ha
    generalize args.toList = vs
    intro ha
    match vs, ha with
    | [u], ha =>
      obtain ⟨⟨ds, e, hd⟩, _⟩ := ha
      refine ⟨⟨ds, e, ?_⟩, trivial⟩
      have hd : All2 (SC.ok R) [.f (.slice i o n cap), .f (.int .i64 x)] ds.toList := hd
      show All2 (SC.ok _) [.f (sl0 o.den n.den), .f (.int .i64 (.o x.den))] ds.toList
      generalize ds.toList = L at hd ⊢
      match L, hd with
      | [a, b], hd =>
        obtain ⟨⟨gl, cp, e1, e2, e3, e4⟩, hb2, _⟩ := hd
        exact ⟨⟨gl, cp, by unfold pull; exact e1, e2, trivial, e4⟩, hb2, trivial⟩
  refine (frame (ms := rwM true cs ty) (ms' := ⟨2, Tr.nil.set 1 (some ⟨.pop (prsA cs o.den n.den), 89, true⟩), []⟩) (E0_ok.fns 37 _ (by kernel_rfl : E0.fn 37 = some Tryd.f37)).1 (by kernel_rfl : Tryd.f37.body = some (Tryd.f37.body.getD .skip)) (of_good ty x.den (hq _ (by simp)) (hq _ (by simp))) rfl (ι := fun _ => i) ?_ (fun _ _ => hlt) ?_ ?_ ?_ (show 1 ≤ 2 by decide) hl' hR).mono ?_
  · intro a b h1 h2 _
    have h1 : a < 1 := h1
    have h2 : b < 1 := h2
    omega
  · intro j b hj
    obtain ⟨rfl, rfl⟩ := rwM_get hj
    exact ⟨Nat.zero_lt_one, _, hb, rfl, fun h => (by cases h), fun R cs' h => h⟩
  · intro j b hj hw
    obtain ⟨rfl, rfl⟩ := rwM_get hj
    cases hw
  · intro j b hj h1
    have h1 : j < 1 := h1
    have e : j = 0 := by omega
    subst e
    have hj : (none : Option SBlk) = some b := hj
    cases hj
  · rintro u w' ⟨R', k1, k2, k3⟩
    exact ⟨_, _, R', hA, k1, k2, k3⟩
end Go.Proofs.YtjjeahnbppmigaaDoor
/- Of extents: May and Of of nil. -/
namespace Go.Proofs.YtjjeahnbppmigaaDoor
set_option maxRecDepth 100000
theorem my0_vc (L : Int) (r : Bool) : (run E0 1000 0 [callFr 36 Tryd.f36.ntmps [.s (.agg (.ls [.f (.lit (.slice none 0 0)), .f (.int .i64 (.o L))]))] (Tryd.f36.body.getD .skip)] e0M).vc (boolR r) (fun _ _ => False) =
    (((decide (L ≥ (0 : Int)) == true) = true → decide (L ≤ (0 : Int)) = r) ∧ ((decide (L ≥ (0 : Int)) == true) = false → false = r)) := by kernel_rfl
theorem of0_vc (L : Int) : (run E0 1000 0 [callFr 37 Tryd.f37.ntmps [.s (.agg (.ls [.f .e0, .f (.int .i64 (.o L))]))] (Tryd.f37.body.getD .skip)] e0M).vc (retOk 0 [] (.s (.agg (.ls [.f (.lit (.slice none 0 0)), .f (.int .i64 (.o L))]))) e0M) (fun _ _ => False) =
    (Value.slice none (0 : Nat) (0 : Nat) = Value.slice none (0 : Nat) (0 : Nat) ∧ L = L ∧ True) := by kernel_rfl
end Go.Proofs.YtjjeahnbppmigaaDoor
/- Of tables: May, and the law's Of, as contracts of slices in cells. No condition. -/
namespace Go.Proofs.YtjjeahnbppmigaaDoor
set_option linter.unusedSectionVars false
variable [Gh]
set_option maxRecDepth 100000
set_option linter.unusedVariables false
omit [Gh] in
theorem prs_ext {cs : Array Value} {off n : Nat} (h : PrOk cs off n) : prsA cs off n = cs.extract off (off + n * 2) := by
  have hs := h.sz
  apply Array.ext_getElem?
  intro j
  by_cases hj : j < n * 2
  · have hi : j / 2 < n := by omega
    obtain ⟨k1, k2⟩ := prsL_at cs off hi
    rw [ext_get hs (by omega)]
    unfold prsA
    rw [List.getElem?_toArray]
    have a := h.a _ hi
    have b := h.b _ hi
    unfold IsInt at a b
    rcases Nat.mod_two_eq_zero_or_one j with e | e
    · have e1 : j = j / 2 * 2 := by omega
      rw [e1, k1, ← e1]
      rw [show off + j = off + j / 2 * 2 by omega, a]
      rfl
    · have e1 : j = j / 2 * 2 + 1 := by omega
      rw [e1, k2, ← e1]
      rw [show off + j = off + j / 2 * 2 + 1 by omega, b]
      rfl
  · rw [Array.getElem?_eq_none (by unfold prsA; rw [List.size_toArray, prsL_len]; omega), Array.getElem?_eq_none (by rw [ext_size hs]; omega)]
omit [Gh] in
def exS (x : SC) (L : Int) : SV := .s (.agg (.ls [x, .f (.int .i64 (.o L))]))
omit [Gh] in
def nilC : SC := .f (.lit (.slice none 0 0))
omit [Gh] in
def anC (id n : Nat) : SC := .f (.slice id (.l 0) (.o n) .any)
omit [Gh] in
theorem anC_move {R R' : Ren} {id id' n : Nat} {g : Loc} (h : R id = some g) (h' : R' id' = some g) {v : Value} (hv : (anC id n).ok R v) : (anC id' n).ok R' v := by
  obtain ⟨g', c, e1, e2, e3, e4⟩ := hv
  rw [h] at e1
  cases e1
  exact ⟨g, c, h', e2, e3, e4⟩
omit [Gh] in
theorem agg_mid {R R' : Ren} {c c' : SC} (hc : ∀ v, c.ok R v → c'.ok R' v) {x y : List SC} (hx : allB (SC.lt 0) x = true) (hy : allB (SC.lt 0) y = true) {v : Value} (h : (S1.agg (.ls (x ++ c :: y))).ok R v) : (S1.agg (.ls (x ++ c' :: y))).ok R' v := by
  obtain ⟨cs, e, h⟩ := h
  exact ⟨cs, e, all2_mid hc hy hx h⟩
theorem mayx_con {m : SMem} {i : Nat} {o n : SN} {cap : SK} {x : SI} {cs : Array Value} (hr : rowV m i = some (false, cs)) : Con E0 36 [.s (.agg (.ls [.f (.slice i o n cap), .f (.int .i64 x)]))] m (.need [PrOk cs o.den n.den] (.ret (sB (.o (mayE cs o.den n.den x.den))) m)) := by
  refine Con.asked fun hq => ?_
  intro A hA
  exact my_con (o := o) (n := n) (cap := cap) (x := x) hr A ⟨hq, hA⟩
theorem may_nil (L : Int) (m : SMem) : Con E0 36 [exS nilC L] m (.ret (sB (.o (decide (L = 0)))) m) := by
  have h : Con E0 36 [exS nilC L] m (needs [] (.ret (sB (.o (decide (L = 0)))) m)) := by
    refine Con.seeV E0_ok (l' := [exS nilC L]) (ms := fun _ => ⟨0, .nil, []⟩) (A := boolR (decide (L = 0))) (by kernel_rfl : E0.fn 36 = some Tryd.f36) (by kernel_rfl : Tryd.f36.body = some (Tryd.f36.body.getD .skip)) (fun _ => Looks.flat fun R vs ha => ok_anys rfl ha) (fun _ _ => ?_) (fun _ _ _ _ _ => boolR_ok)
    refine run_vc E0_ok 1000 (my0_vc L (decide (L = 0))) ⟨fun h => ?_, fun h => ?_⟩ (fun _ _ h => h) (fun _ _ h => h.elim)
    · have h : 0 ≤ L := by simpa using h
      exact decide_eq_decide.2 (by omega)
    · have h : ¬ 0 ≤ L := by simpa using h
      exact (decide_eq_false (by omega)).symm
  intro A hA
  exact h A hA
omit [Gh] in
def e0C : SC := .f .e0
theorem of_nil (L : Int) (m : SMem) : Con E0 37 [exS e0C L] m (.ret (exS nilC L) m) := by
  have h : Con E0 37 [exS e0C L] m (needs [] (.ret (exS nilC L) m)) := Con.pure E0_ok (by kernel_rfl : E0.fn 37 = some Tryd.f37) (by kernel_rfl : Tryd.f37.body = some (Tryd.f37.body.getD .skip)) rfl rfl fun hq =>
    (Good.ret [] (run_vc E0_ok 1000 (of0_vc L) (by repeat' first | exact trivial | exact rfl | apply And.intro) (fun s m h => h) fun _ _ h => h.elim)).mono fun _ _ h => h.1
  intro A hA
  exact h A hA
def SlX (v : Value) : Prop := (∃ a c, v = .slice a 0 c) ∨ SlV v
theorem SlX.nil {v : Value} (h : SlX v) (hn : nV v = 0) : ∃ a c, v = .slice a 0 c := by
  rcases h with h | ⟨r, h⟩
  · exact h
  · exact ⟨none, 0, h.nil hn⟩
theorem SlX.row {v : Value} (h : SlX v) (hn : nV v ≠ 0) : SlV v := by
  rcases h with ⟨a, c, rfl⟩ | h
  · exact absurd rfl hn
  · exact h
noncomputable def ofV (v : Value) (L : Int) (m : SMem) : Tree := .need [SlX v] (.br (decide (nV v = 0)) (.ret (exS nilC L) m) (.ret (exS (anC m.next (nV v)) L) (m.new (.pop (rowK v)) 89)))
theorem of_val (v : Value) (L : SI) (m : SMem) : Con E0 37 [.s (.agg (.ls [.f (.opq v), .f (.int .i64 L)]))] m (ofV v L.den m) := by
  refine Con.asked fun hq => ?_
  have hx := (hq _ (List.mem_singleton.2 rfl) : SlX v)
  refine Con.two (fun h => ?_) (fun h => ?_)
  · obtain ⟨a0, k0, e⟩ := hx.nil (of_decide_eq_true h)
    refine Con.args (l' := [exS e0C L.den]) (fun R vs ha => ?_) (of_nil L.den m)
    match vs, ha with
    | [u], ha =>
      rw [e] at ha
      obtain ⟨⟨ds, e, hd⟩, _⟩ := ha
      refine ⟨⟨ds, e, ?_⟩, trivial⟩
      have hd : All2 (SC.ok R) [.f (.opq (.slice a0 0 k0)), .f (.int .i64 L)] ds.toList := hd
      show All2 (SC.ok R) [e0C, .f (.int .i64 (.o L.den))] ds.toList
      generalize ds.toList = T at hd ⊢
      match T, hd with
      | [a, b], hd => exact ⟨⟨a0, k0, hd.1.1⟩, hd.2.1, trivial⟩
  · have hn := of_decide_eq_false h
    have hv := rowK_ok (hx.row hn)
    rcases hv with ⟨rfl, _⟩ | ⟨b, off, n, c, cs, rfl, h1, h3, h4, h5, h6⟩
    · exact absurd rfl hn
    · have key : Con E0 37 [.s (.agg (.ls [.f (.opq (.slice (some ⟨b, off, none⟩) n c)), .f (.int .i64 L)]))] m (needs [] (.ret (exS (anC m.next n) L.den) (m.new (.pop (prsA cs.toArray off n)) 89))) := by
        refine Con.seeS E0_ok (l' := [extS off n L.den]) (S := fun id => exS (anC id n) L.den) (m0 := ⟨2, Tr.nil.set 1 (some ⟨.pop (prsA cs.toArray off n), 89, true⟩), []⟩) (k0 := 1) (by kernel_rfl : E0.fn 37 = some Tryd.f37) (by kernel_rfl : Tryd.f37.body = some (Tryd.f37.body.getD .skip)) (fun _ => Looks.known h1 fun R R' vs h0 ha => ?_) rfl ?_ (by kernel_rfl) (fun _ ty => of_good ty L.den h3 (by omega))
        · match vs, ha with
          | [u], ha =>
            obtain ⟨⟨ds, e, hd⟩, _⟩ := ha
            refine ⟨⟨ds, e, ?_⟩, trivial⟩
            have hd : All2 (SC.ok R) [.f (.opq (.slice (some ⟨b, off, none⟩) n c)), .f (.int .i64 L)] ds.toList := hd
            show All2 (SC.ok R') [.f (sl0 off n), .f (.int .i64 (.o L.den))] ds.toList
            generalize ds.toList = T at hd ⊢
            match T, hd with
            | [x, y], hd =>
              obtain ⟨⟨rfl, _⟩, hd⟩ := hd
              exact ⟨⟨_, c, h0, rfl, trivial, h5⟩, hd.1, trivial⟩
        · intro R R' id id' x v h h' hv
          exact agg_mid (x := []) (fun v => anC_move h h') rfl rfl hv
      intro A hA
      refine key A ?_
      rw [prs_ext h3, ← h6]
      exact hA
end Go.Proofs.YtjjeahnbppmigaaDoor
/- Of tables: the environment of the law's Region. No condition. -/
namespace Go.Proofs.YtjjeahnbppmigaaDoor
set_option linter.unusedSectionVars false
variable [Gh]
noncomputable section
omit [Gh] in
def rgC (u q : Int) (x : SC) (l c0 c1 c2 c3 c4 c5 c6 c7 : Int) : List SC := [.f (.int .u32 (.o u)), .f (.int .i64 (.o q)), x, .f (.int .i64 (.o l)), .f (.int .u32 (.o c0)), .f (.int .u32 (.o c1)), .f (.int .u32 (.o c2)), .f (.int .u32 (.o c3)), .f (.int .u32 (.o c4)), .f (.int .u32 (.o c5)), .f (.int .u32 (.o c6)), .f (.int .u32 (.o c7))]
omit [Gh] in
def rgD (u q : Int) (x : SC) (l c0 c1 c2 c3 c4 c5 c6 c7 : Int) : List SC := [.f (.int .i64 (.o u)), .f (.int .i64 (.o q)), x, .f (.int .i64 (.o l)), .f (.int .i64 (.o c0)), .f (.int .i64 (.o c1)), .f (.int .i64 (.o c2)), .f (.int .i64 (.o c3)), .f (.int .i64 (.o c4)), .f (.int .i64 (.o c5)), .f (.int .i64 (.o c6)), .f (.int .i64 (.o c7))]
omit [Gh] in
def rgV (l : List SC) : SV := .s (.agg (.ls l))
def conR (g : FuncId) (l : List SV) (m : SMem) : Option Tree := match g, l with
  | 37, [.s (.agg (.ls [.f (.opq v), .f (.int .i64 L)]))] => some (ofV v L.den m)
  | _, _ => none
def ER : Env := ⟨Tryd.prog, fnOf, conR, haltAt []⟩
omit [Gh] in
def opC (v : Value) : SC := .f (.opq v)
omit [Gh] in
def wu (x : Int) : Int := IntKind.u32.wrap x
omit [Gh] in
def rgR (b : Bool) (u q l c0 c1 c2 c3 c4 c5 c6 c7 : Int) (n : Nat) (cs : Array Value) (s : SV) (m : SMem) : Prop := match s with
  | .s (.agg (.ls (_ :: _ :: .f (.slice sid _ _ _) :: _))) => b = true ∧ retOk 0 [(0, sid)] (rgV (rgC u q (anC 0 n) l c0 c1 c2 c3 c4 c5 c6 c7)) (mkM 1 [(0, ⟨.pop cs, 89, true⟩)]) s m
  | _ => b = false ∧ retOk 0 [] (rgV (rgC u q nilC l c0 c1 c2 c3 c4 c5 c6 c7)) e0M s m
end
theorem conR_ok : ∀ g l m t, conR g l m = some t → Con E0 g l m t := by
  intro g l m t h
  unfold conR at h
  split at h
  · rename_i v L; cases h
    exact of_val v L m
  · cases h
theorem ER_ok : EnvOk ER := EnvOk.with E0_ok _ _ conR_ok
end Go.Proofs.YtjjeahnbppmigaaDoor
/- Of tables: the law's Region. -/
namespace Go.Proofs.YtjjeahnbppmigaaDoor
set_option linter.unusedSectionVars false
variable [Gh]
set_option maxRecDepth 100000
theorem rg_vc (u q : Int) (v : Value) (l c0 c1 c2 c3 c4 c5 c6 c7 : Int) (b : Bool) (u' q' l' d0 d1 d2 d3 d4 d5 d6 d7 : Int) (n : Nat) (cs : Array Value) : (run ER 1000 0 [callFr 16 Tryd.f16.ntmps [rgV (rgD u q (opC v) l c0 c1 c2 c3 c4 c5 c6 c7)] (Tryd.f16.body.getD .skip)] e0M).vc (rgR b u' q' l' d0 d1 d2 d3 d4 d5 d6 d7 n cs) (fun _ _ => False) =
    ((SlX v ∧ True) ∧ (decide (nV v = (0 : Nat)) = true → b = false ∧ u' = IntKind.wrap IntKind.u32 u ∧ q' = q ∧ Value.slice none (0 : Nat) (0 : Nat) = Value.slice none (0 : Nat) (0 : Nat) ∧ l' = l ∧ d0 = IntKind.wrap IntKind.u32 c0 ∧ d1 = IntKind.wrap IntKind.u32 c1 ∧ d2 = IntKind.wrap IntKind.u32 c2 ∧ d3 = IntKind.wrap IntKind.u32 c3 ∧ d4 = IntKind.wrap IntKind.u32 c4 ∧ d5 = IntKind.wrap IntKind.u32 c5 ∧ d6 = IntKind.wrap IntKind.u32 c6 ∧ d7 = IntKind.wrap IntKind.u32 c7 ∧ True) ∧ (decide (nV v = (0 : Nat)) = false → b = true ∧ u' = IntKind.wrap IntKind.u32 u ∧ q' = q ∧ n = nV v ∧ l' = l ∧ d0 = IntKind.wrap IntKind.u32 c0 ∧ d1 = IntKind.wrap IntKind.u32 c1 ∧ d2 = IntKind.wrap IntKind.u32 c2 ∧ d3 = IntKind.wrap IntKind.u32 c3 ∧ d4 = IntKind.wrap IntKind.u32 c4 ∧ d5 = IntKind.wrap IntKind.u32 c5 ∧ d6 = IntKind.wrap IntKind.u32 c6 ∧ d7 = IntKind.wrap IntKind.u32 c7 ∧ (89 : TypeId) = (89 : TypeId) ∧ cs = rowK v ∧ True)) := by kernel_rfl
end Go.Proofs.YtjjeahnbppmigaaDoor
/- Of tables: the law's Region: its contract. No condition. -/
namespace Go.Proofs.YtjjeahnbppmigaaDoor
set_option linter.unusedSectionVars false
variable [Gh]
set_option maxRecDepth 100000
set_option linter.unusedVariables false
section
variable {u q l c0 c1 c2 c3 c4 c5 c6 c7 : Int} {n : Nat} {cs : Array Value} {s : SV} {m : SMem}
omit [Gh] in
theorem rgR_nil (h : rgR false u q l c0 c1 c2 c3 c4 c5 c6 c7 n cs s m) : retOk 0 [] (rgV (rgC u q nilC l c0 c1 c2 c3 c4 c5 c6 c7)) e0M s m := by
  unfold rgR at h
  split at h
  · cases h.1
  · exact h.2
omit [Gh] in
theorem rgR_row (h : rgR true u q l c0 c1 c2 c3 c4 c5 c6 c7 n cs s m) : ∃ π, retOk 0 π (rgV (rgC u q (anC 0 n) l c0 c1 c2 c3 c4 c5 c6 c7)) (mkM 1 [(0, ⟨.pop cs, 89, true⟩)]) s m := by
  unfold rgR at h
  split at h
  · exact ⟨_, h.2⟩
  · cases h.1
end
noncomputable def rgnV (u q : Int) (v : Value) (l c0 c1 c2 c3 c4 c5 c6 c7 : Int) (m : SMem) : Tree := .need [SlX v] (.br (decide (nV v = 0)) (.ret (rgV (rgC (wu u) q nilC l (wu c0) (wu c1) (wu c2) (wu c3) (wu c4) (wu c5) (wu c6) (wu c7))) m)
  (.ret (rgV (rgC (wu u) q (anC m.next (nV v)) l (wu c0) (wu c1) (wu c2) (wu c3) (wu c4) (wu c5) (wu c6) (wu c7))) (m.new (.pop (rowK v)) 89)))
theorem region_con (u q : Int) (v : Value) (l c0 c1 c2 c3 c4 c5 c6 c7 : Int) (m : SMem) : Con E0 16 [rgV (rgD u q (opC v) l c0 c1 c2 c3 c4 c5 c6 c7)] m (rgnV u q v l c0 c1 c2 c3 c4 c5 c6 c7 m) := by
  refine Con.asked fun hq => ?_
  have hv := (hq _ (List.mem_singleton.2 rfl) : SlX v)
  refine Con.two (fun h => ?_) (fun h => ?_)
  · have key : Con E0 16 [rgV (rgD u q (opC v) l c0 c1 c2 c3 c4 c5 c6 c7)] m (needs [] (.ret (rgV (rgC (wu u) q nilC l (wu c0) (wu c1) (wu c2) (wu c3) (wu c4) (wu c5) (wu c6) (wu c7))) m)) := Con.pure E0_ok (by kernel_rfl : E0.fn 16 = some Tryd.f16) (by kernel_rfl : Tryd.f16.body = some (Tryd.f16.body.getD .skip)) rfl rfl fun hq =>
      (Good.ret [] ((run_vc ER_ok 1000 (rg_vc u q v l c0 c1 c2 c3 c4 c5 c6 c7 false (wu u) q l (wu c0) (wu c1) (wu c2) (wu c3) (wu c4) (wu c5) (wu c6) (wu c7) 0 #[]) (by
        refine ⟨⟨hv, trivial⟩, fun _ => ?_, fun h' => by rw [h] at h'; cases h'⟩
        repeat' first | exact trivial | exact rfl | apply And.intro) (fun s m h => h) fun _ _ h => h.elim).mono fun _ _ h => rgR_nil h)).mono fun _ _ h => h.1
    intro A hA
    exact key A hA
  · have key : Con E0 16 [rgV (rgD u q (opC v) l c0 c1 c2 c3 c4 c5 c6 c7)] m (needs [] (.ret (rgV (rgC (wu u) q (anC m.next (nV v)) l (wu c0) (wu c1) (wu c2) (wu c3) (wu c4) (wu c5) (wu c6) (wu c7))) (m.new (.pop (rowK v)) 89))) := by
      refine Con.seeS E0_ok (l' := [rgV (rgD u q (opC v) l c0 c1 c2 c3 c4 c5 c6 c7)]) (ms := fun _ => ⟨0, .nil, []⟩) (S := fun id => rgV (rgC (wu u) q (anC id (nV v)) l (wu c0) (wu c1) (wu c2) (wu c3) (wu c4) (wu c5) (wu c6) (wu c7))) (m0 := mkM 1 [(0, ⟨.pop (rowK v), 89, true⟩)]) (k0 := 0) (by kernel_rfl : E0.fn 16 = some Tryd.f16) (by kernel_rfl : Tryd.f16.body = some (Tryd.f16.body.getD .skip)) (fun _ => Looks.flat fun R vs ha => ok_anys rfl ha) rfl ?_ (by kernel_rfl) (fun _ ty => ?_)
      · intro R R' id id' x w h h' hv
        exact agg_mid (x := [.f (.int .u32 (.o (wu u))), .f (.int .i64 (.o q))]) (fun v => anC_move h h') rfl rfl hv
      · refine Good.retX ((run_vc ER_ok 1000 (rg_vc u q v l c0 c1 c2 c3 c4 c5 c6 c7 true (wu u) q l (wu c0) (wu c1) (wu c2) (wu c3) (wu c4) (wu c5) (wu c6) (wu c7) (nV v) (rowK v)) ?_ (fun s m h => h) fun _ _ h => h.elim).mono fun _ _ h => rgR_row h)
        refine ⟨⟨hv, trivial⟩, fun h' => (by rw [h] at h'; cases h'), fun _ => ?_⟩
        repeat' first | exact trivial | exact rfl | apply And.intro
    intro A hA
    exact key A hA
end Go.Proofs.YtjjeahnbppmigaaDoor
/- Of tables: Get, Set, Drop, New, what is above: runs. No condition. -/
namespace Go.Proofs.YtjjeahnbppmigaaDoor
set_option linter.unusedSectionVars false
variable [Gh]
set_option linter.unusedVariables false
omit [Gh] in
noncomputable def zT : Array Value := ((List.replicate 32 [Value.int .u32 0, Value.int .u8 0]).flatten ++ (List.replicate 32 [Value.int .u32 0, Value.int .i64 0, Value.slice none 0 0, Value.int .i64 0, Value.int .u32 0, Value.int .u32 0, Value.int .u32 0, Value.int .u32 0, Value.int .u32 0, Value.int .u32 0, Value.int .u32 0, Value.int .u32 0]).flatten).toArray
omit [Gh] in
theorem zT_sz : zT.size = 448 := by kernel_rfl
omit [Gh] in
def bkB (ts : Array Value) : Array Value := ts.extract 0 64
omit [Gh] in
noncomputable def tbS (ts : Array Value) : SV := .s (.agg (.op ts))
structure RgOk (ts : Array Value) (p : Nat) : Prop where
  u : IsInt .u32 ts p
  q : IsInt .i64 ts (p + 1)
  r : SlV (valAt ts (p + 2))
  ro : IsOne ts (p + 2)
  l : IsInt .i64 ts (p + 3)
  c : ∀ k, k < 8 → IsInt .u32 ts (p + 4 + k)
  hu : inH (intAt ts p)
  hq : 0 ≤ intAt ts (p + 1) ∧ intAt ts (p + 1) ≤ 64
  hc : ∀ k, k < 8 → inH (intAt ts (p + 4 + k))
structure TbOk (ts : Array Value) : Prop where
  sz : ts.size = 448
  bk : BkOk (bkB ts)
  rg : ∀ i, i < 32 → RgOk ts (64 + i * 12)
noncomputable def conT0 (g : FuncId) (l : List SV) (m : SMem) : Option Tree := match g, l with
  | 32, [.s (.c (.f (.int .u32 h)))] => some (.need [inH h.den] (.ret (ibT (slotI h.den) (slotOk h.den)) m))
  | 12, [.s (.agg (.op bs)), .s (.c (.f (.int .u32 h)))] => some (.need [BkOk bs, inH h.den] (.ret (sB (.o (goodB bs h.den))) m))
  | 49, [.s (.agg (.op bs)), .s (.c (.f (.int .i64 i)))] => some (.need [BkOk bs] (.ret (hbT (atI bs i.den) (atOk bs i.den)) m))
  | 34, [.s (.agg (.op bs)), .s (.c (.f (.int .u32 h)))] => some (.need [BkOk bs, inH h.den] (.ret (bbT (voidB bs h.den) (goodB bs h.den)) m))
  | 38, [.s (.agg (.op bs))] => some (.need [BkOk bs] (.ret (bhbT (issueB bs) (issueI bs) (issueOk bs)) m))
  | 39, [.s (.agg (.op bs))] => some (.need [BkOk bs] (rowT (issued bs) 32 m))
  | 28, [.s (.c (.f (.opq v)))] => some (cloV v m)
  | 28, [.s (.c (.f (.lit (.slice none 0 0))))] => some (.ret nilS m)
  | 28, [.s (.c (.f (.slice i o n _)))] => (match getB m.bl i with | some ⟨.pop cs, _, _⟩ => some (.need [PrOk cs o.den n.den] (.ret (rowS n.den m.next) (m.new (.pop (cs.extract o.den (o.den + n.den * 2))) 89))) | _ => none)
  | 36, [.s (.agg (.ls [.f (.slice i o n _), .f (.int .i64 x)]))] => (match rowV m i with | some (false, cs) => some (.need [PrOk cs o.den n.den] (.ret (sB (.o (mayE cs o.den n.den x.den))) m)) | _ => none)
  | 36, [.s (.agg (.ls [.f (.lit (.slice none 0 0)), .f (.int .i64 x)]))] => some (.ret (sB (.o (decide (x.den = 0)))) m)
  | _, _ => none
noncomputable def ET0 : Env := ⟨Tryd.prog, fnOf, conT0, haltAt []⟩
omit [Gh] in
noncomputable def rgS (o : Array Value) (e : Int) : SV := .tup [.agg (.op o), .c (.f (.int .i64 (.o e)))]
noncomputable section
omit [Gh] in
def geR (b : Bool) (u q l c0 c1 c2 c3 c4 c5 c6 c7 e : Int) (n : Nat) (cs : Array Value) (s : SV) (m : SMem) : Prop := match s with
  | .tup [.agg (.ls (_ :: _ :: .f (.slice sid _ _ _) :: _)), _] => b = true ∧ retOk 0 [(0, sid)] (.tup [.agg (.ls (rgC u q (slC 0 n) l c0 c1 c2 c3 c4 c5 c6 c7)), .c (.f (.int .i64 (.o e)))]) (mkM 1 [(0, ⟨.pop cs, 89, true⟩)]) s m
  | _ => b = false ∧ retOk 0 [] (.tup [.agg (.ls (rgC u q nilC l c0 c1 c2 c3 c4 c5 c6 c7)), .c (.f (.int .i64 (.o e)))]) e0M s m
omit [Gh] in
def seR (b : Bool) (us : Array Value) (o : Nat) (n : Nat) (cs : Array Value) (e : Int) (s : SV) (m : SMem) : Prop := match s with
  | .tup [.agg (.patch _ _ (.slice sid _ _ _)), _] => b = true ∧ retOk 1 [(1, sid)] (.tup [.agg (.patch us o (.slice 1 (.l 0) (.o n) (.full 2))), .c (.f (.int .i64 (.o e)))]) (mkM 2 [(1, ⟨.pop cs, 89, true⟩)]) s m
  | _ => b = false ∧ retOk 1 [] (rgS us e) (mkM 1 []) s m
end
end Go.Proofs.YtjjeahnbppmigaaDoor
/- Of tables: Get, Set, Drop, New, what is above: runs. -/
namespace Go.Proofs.YtjjeahnbppmigaaDoor
set_option linter.unusedSectionVars false
variable [Gh]
set_option maxRecDepth 100000
theorem tg0 (ts : Array Value) (h : Int) (b : Bool) (u q l c0 c1 c2 c3 c4 c5 c6 c7 e : Int) (n : Nat) (cs : Array Value) : (run ET0 1000 0 [callFr 10 Tryd.f10.ntmps [tbS ts, u32 h] (Tryd.f10.body.getD .skip)] e0M).vc (geR b u q l c0 c1 c2 c3 c4 c5 c6 c7 e n cs) (fun _ _ => False) =
    ((64 ≤ Array.size ts ∧ True) ∧ (BkOk (Array.extract ts (0 : Nat) (64)) ∧ ((0 : Int) ≤ h ∧ h < (4294967296 : Int)) ∧ True) ∧ ((!goodB (Array.extract ts (0 : Nat) (64)) h) = true → b = false ∧ u = (0 : Int) ∧ q = (0 : Int) ∧ Value.slice none (0 : Nat) (0 : Nat) = Value.slice none (0 : Nat) (0 : Nat) ∧ l = (0 : Int) ∧ c0 = (0 : Int) ∧ c1 = (0 : Int) ∧ c2 = (0 : Int) ∧ c3 = (0 : Int) ∧ c4 = (0 : Int) ∧ c5 = (0 : Int) ∧ c6 = (0 : Int) ∧ c7 = (0 : Int) ∧ e = (4 : Int) ∧ True) ∧ ((!goodB (Array.extract ts (0 : Nat) (64)) h) = false → (((0 : Int) ≤ h ∧ h < (4294967296 : Int)) ∧ True) ∧ (((0 : Int) ≤ slotI h ∧ slotI h < (32 : Int)) ∧ True) ∧ (IsInt IntKind.u32 ts ((64 : Nat) + Int.toNat (slotI h) * 12) ∧ IsInt IntKind.i64 ts ((64 : Nat) + Int.toNat (slotI h) * 12 + 1) ∧ IsOne ts ((64 : Nat) + Int.toNat (slotI h) * 12 + 2) ∧ IsInt IntKind.i64 ts ((64 : Nat) + Int.toNat (slotI h) * 12 + 3) ∧ IsInt IntKind.u32 ts ((64 : Nat) + Int.toNat (slotI h) * 12 + 4) ∧ IsInt IntKind.u32 ts ((64 : Nat) + Int.toNat (slotI h) * 12 + 5) ∧ IsInt IntKind.u32 ts ((64 : Nat) + Int.toNat (slotI h) * 12 + 6) ∧ IsInt IntKind.u32 ts ((64 : Nat) + Int.toNat (slotI h) * 12 + 7) ∧ IsInt IntKind.u32 ts ((64 : Nat) + Int.toNat (slotI h) * 12 + 8) ∧ IsInt IntKind.u32 ts ((64 : Nat) + Int.toNat (slotI h) * 12 + 9) ∧ IsInt IntKind.u32 ts ((64 : Nat) + Int.toNat (slotI h) * 12 + 10) ∧ IsInt IntKind.u32 ts ((64 : Nat) + Int.toNat (slotI h) * 12 + 11) ∧ True) ∧ (((0 : Int) ≤ h ∧ h < (4294967296 : Int)) ∧ True) ∧ (((0 : Int) ≤ slotI h ∧ slotI h < (32 : Int)) ∧ True) ∧ (IsInt IntKind.u32 ts ((64 : Nat) + Int.toNat (slotI h) * 12) ∧ True) ∧ (64 ≤ Array.size ts ∧ True) ∧ (BkOk (Array.extract ts (0 : Nat) (64)) ∧ ((0 : Int) ≤ intAt ts ((64 : Nat) + Int.toNat (slotI h) * 12) ∧ intAt ts ((64 : Nat) + Int.toNat (slotI h) * 12) < (4294967296 : Int)) ∧ True) ∧ (goodB (Array.extract ts (0 : Nat) (64)) (intAt ts ((64 : Nat) + Int.toNat (slotI h) * 12)) = true → (SlV (valAt ts ((64 : Nat) + Int.toNat (slotI h) * 12 + 2)) ∧ True) ∧ (decide (nV (valAt ts ((64 : Nat) + Int.toNat (slotI h) * 12 + 2)) = (0 : Nat)) = true → b = false ∧ u = intAt ts ((64 : Nat) + Int.toNat (slotI h) * 12) ∧ q = intAt ts ((64 : Nat) + Int.toNat (slotI h) * 12 + 1) ∧ Value.slice none (0 : Nat) (0 : Nat) = Value.slice none (0 : Nat) (0 : Nat) ∧ l = intAt ts ((64 : Nat) + Int.toNat (slotI h) * 12 + 3) ∧ c0 = intAt ts ((64 : Nat) + Int.toNat (slotI h) * 12 + 4) ∧ c1 = intAt ts ((64 : Nat) + Int.toNat (slotI h) * 12 + 5) ∧ c2 = intAt ts ((64 : Nat) + Int.toNat (slotI h) * 12 + 6) ∧ c3 = intAt ts ((64 : Nat) + Int.toNat (slotI h) * 12 + 7) ∧ c4 = intAt ts ((64 : Nat) + Int.toNat (slotI h) * 12 + 8) ∧ c5 = intAt ts ((64 : Nat) + Int.toNat (slotI h) * 12 + 9) ∧ c6 = intAt ts ((64 : Nat) + Int.toNat (slotI h) * 12 + 10) ∧ c7 = intAt ts ((64 : Nat) + Int.toNat (slotI h) * 12 + 11) ∧ e = (0 : Int) ∧ True) ∧ (decide (nV (valAt ts ((64 : Nat) + Int.toNat (slotI h) * 12 + 2)) = (0 : Nat)) = false → b = true ∧ u = intAt ts ((64 : Nat) + Int.toNat (slotI h) * 12) ∧ q = intAt ts ((64 : Nat) + Int.toNat (slotI h) * 12 + 1) ∧ n = nV (valAt ts ((64 : Nat) + Int.toNat (slotI h) * 12 + 2)) ∧ l = intAt ts ((64 : Nat) + Int.toNat (slotI h) * 12 + 3) ∧ c0 = intAt ts ((64 : Nat) + Int.toNat (slotI h) * 12 + 4) ∧ c1 = intAt ts ((64 : Nat) + Int.toNat (slotI h) * 12 + 5) ∧ c2 = intAt ts ((64 : Nat) + Int.toNat (slotI h) * 12 + 6) ∧ c3 = intAt ts ((64 : Nat) + Int.toNat (slotI h) * 12 + 7) ∧ c4 = intAt ts ((64 : Nat) + Int.toNat (slotI h) * 12 + 8) ∧ c5 = intAt ts ((64 : Nat) + Int.toNat (slotI h) * 12 + 9) ∧ c6 = intAt ts ((64 : Nat) + Int.toNat (slotI h) * 12 + 10) ∧ c7 = intAt ts ((64 : Nat) + Int.toNat (slotI h) * 12 + 11) ∧ e = (0 : Int) ∧ (89 : TypeId) = (89 : TypeId) ∧ cs = rowK (valAt ts ((64 : Nat) + Int.toNat (slotI h) * 12 + 2)) ∧ True)) ∧ (goodB (Array.extract ts (0 : Nat) (64)) (intAt ts ((64 : Nat) + Int.toNat (slotI h) * 12)) = false → (SlV (valAt ts ((64 : Nat) + Int.toNat (slotI h) * 12 + 2)) ∧ True) ∧ (decide (nV (valAt ts ((64 : Nat) + Int.toNat (slotI h) * 12 + 2)) = (0 : Nat)) = true → b = false ∧ u = (0 : Int) ∧ q = intAt ts ((64 : Nat) + Int.toNat (slotI h) * 12 + 1) ∧ Value.slice none (0 : Nat) (0 : Nat) = Value.slice none (0 : Nat) (0 : Nat) ∧ l = intAt ts ((64 : Nat) + Int.toNat (slotI h) * 12 + 3) ∧ c0 = intAt ts ((64 : Nat) + Int.toNat (slotI h) * 12 + 4) ∧ c1 = intAt ts ((64 : Nat) + Int.toNat (slotI h) * 12 + 5) ∧ c2 = intAt ts ((64 : Nat) + Int.toNat (slotI h) * 12 + 6) ∧ c3 = intAt ts ((64 : Nat) + Int.toNat (slotI h) * 12 + 7) ∧ c4 = intAt ts ((64 : Nat) + Int.toNat (slotI h) * 12 + 8) ∧ c5 = intAt ts ((64 : Nat) + Int.toNat (slotI h) * 12 + 9) ∧ c6 = intAt ts ((64 : Nat) + Int.toNat (slotI h) * 12 + 10) ∧ c7 = intAt ts ((64 : Nat) + Int.toNat (slotI h) * 12 + 11) ∧ e = (0 : Int) ∧ True) ∧ (decide (nV (valAt ts ((64 : Nat) + Int.toNat (slotI h) * 12 + 2)) = (0 : Nat)) = false → b = true ∧ u = (0 : Int) ∧ q = intAt ts ((64 : Nat) + Int.toNat (slotI h) * 12 + 1) ∧ n = nV (valAt ts ((64 : Nat) + Int.toNat (slotI h) * 12 + 2)) ∧ l = intAt ts ((64 : Nat) + Int.toNat (slotI h) * 12 + 3) ∧ c0 = intAt ts ((64 : Nat) + Int.toNat (slotI h) * 12 + 4) ∧ c1 = intAt ts ((64 : Nat) + Int.toNat (slotI h) * 12 + 5) ∧ c2 = intAt ts ((64 : Nat) + Int.toNat (slotI h) * 12 + 6) ∧ c3 = intAt ts ((64 : Nat) + Int.toNat (slotI h) * 12 + 7) ∧ c4 = intAt ts ((64 : Nat) + Int.toNat (slotI h) * 12 + 8) ∧ c5 = intAt ts ((64 : Nat) + Int.toNat (slotI h) * 12 + 9) ∧ c6 = intAt ts ((64 : Nat) + Int.toNat (slotI h) * 12 + 10) ∧ c7 = intAt ts ((64 : Nat) + Int.toNat (slotI h) * 12 + 11) ∧ e = (0 : Int) ∧ (89 : TypeId) = (89 : TypeId) ∧ cs = rowK (valAt ts ((64 : Nat) + Int.toNat (slotI h) * 12 + 2)) ∧ True)))) := by kernel_rfl
theorem tt0 (ts : Array Value) (h : Int) (u q l c0 c1 c2 c3 c4 c5 c6 c7 : Int) (o : Array Value) (e : Int) : (run ET0 1000 0 [callFr 15 Tryd.f15.ntmps [tbS ts, u32 h, rgV (rgC u q nilC l c0 c1 c2 c3 c4 c5 c6 c7)] (Tryd.f15.body.getD .skip)] e0M).vc (retOk 0 [] (rgS o e) e0M) (fun _ _ => False) =
    ((64 ≤ Array.size ts ∧ True) ∧ (BkOk (Array.extract ts (0 : Nat) (64)) ∧ ((0 : Int) ≤ h ∧ h < (4294967296 : Int)) ∧ True) ∧ ((!goodB (Array.extract ts (0 : Nat) (64)) h) = true → (Array.size ts = (448 : Nat) ∧ True) ∧ (Array.size ts = (448 : Nat) ∧ Array.size ts = (448 : Nat) ∧ True) ∧ (Array.size ts = (448 : Nat) ∧ True) ∧ o = ts ∧ e = (4 : Int) ∧ True) ∧ ((!goodB (Array.extract ts (0 : Nat) (64)) h) = false → ((decide (q ≥ (0 : Int)) == true) = true → (((!decide (q ≤ (64 : Int))) == false) = true → ((!decide (l = (0 : Int))) = true → (Array.size ts = (448 : Nat) ∧ True) ∧ (Array.size ts = (448 : Nat) ∧ Array.size ts = (448 : Nat) ∧ True) ∧ (Array.size ts = (448 : Nat) ∧ True) ∧ o = ts ∧ e = (2 : Int) ∧ True) ∧ ((!decide (l = (0 : Int))) = false → (((0 : Int) ≤ h ∧ h < (4294967296 : Int)) ∧ True) ∧ (((0 : Int) ≤ slotI h ∧ slotI h < (32 : Int)) ∧ True) ∧ (IsInt IntKind.u32 ts ((64 : Nat) + Int.toNat (slotI h) * 12) ∧ True) ∧ (((0 : Int) ≤ h ∧ h < (4294967296 : Int)) ∧ True) ∧ (((0 : Int) ≤ slotI h ∧ slotI h < (32 : Int)) ∧ True) ∧ ((64 : Nat) + Int.toNat (slotI h) * 12 + List.length [Value.int IntKind.u32 (intAt ts ((64 : Nat) + Int.toNat (slotI h) * 12)), Value.int IntKind.i64 q, Value.slice none (0 : Nat) (0 : Nat), Value.int IntKind.i64 l, Value.int IntKind.u32 c0, Value.int IntKind.u32 c1, Value.int IntKind.u32 c2, Value.int IntKind.u32 c3, Value.int IntKind.u32 c4, Value.int IntKind.u32 c5, Value.int IntKind.u32 c6, Value.int IntKind.u32 c7] ≤ Array.size ts ∧ True) ∧ (Array.size (putAt ts ((64 : Nat) + Int.toNat (slotI h) * 12) [Value.int IntKind.u32 (intAt ts ((64 : Nat) + Int.toNat (slotI h) * 12)), Value.int IntKind.i64 q, Value.slice none (0 : Nat) (0 : Nat), Value.int IntKind.i64 l, Value.int IntKind.u32 c0, Value.int IntKind.u32 c1, Value.int IntKind.u32 c2, Value.int IntKind.u32 c3, Value.int IntKind.u32 c4, Value.int IntKind.u32 c5, Value.int IntKind.u32 c6, Value.int IntKind.u32 c7]) = (448 : Nat) ∧ True) ∧ (Array.size (putAt ts ((64 : Nat) + Int.toNat (slotI h) * 12) [Value.int IntKind.u32 (intAt ts ((64 : Nat) + Int.toNat (slotI h) * 12)), Value.int IntKind.i64 q, Value.slice none (0 : Nat) (0 : Nat), Value.int IntKind.i64 l, Value.int IntKind.u32 c0, Value.int IntKind.u32 c1, Value.int IntKind.u32 c2, Value.int IntKind.u32 c3, Value.int IntKind.u32 c4, Value.int IntKind.u32 c5, Value.int IntKind.u32 c6, Value.int IntKind.u32 c7]) = (448 : Nat) ∧ Array.size (putAt ts ((64 : Nat) + Int.toNat (slotI h) * 12) [Value.int IntKind.u32 (intAt ts ((64 : Nat) + Int.toNat (slotI h) * 12)), Value.int IntKind.i64 q, Value.slice none (0 : Nat) (0 : Nat), Value.int IntKind.i64 l, Value.int IntKind.u32 c0, Value.int IntKind.u32 c1, Value.int IntKind.u32 c2, Value.int IntKind.u32 c3, Value.int IntKind.u32 c4, Value.int IntKind.u32 c5, Value.int IntKind.u32 c6, Value.int IntKind.u32 c7]) = (448 : Nat) ∧ True) ∧ (Array.size (putAt ts ((64 : Nat) + Int.toNat (slotI h) * 12) [Value.int IntKind.u32 (intAt ts ((64 : Nat) + Int.toNat (slotI h) * 12)), Value.int IntKind.i64 q, Value.slice none (0 : Nat) (0 : Nat), Value.int IntKind.i64 l, Value.int IntKind.u32 c0, Value.int IntKind.u32 c1, Value.int IntKind.u32 c2, Value.int IntKind.u32 c3, Value.int IntKind.u32 c4, Value.int IntKind.u32 c5, Value.int IntKind.u32 c6, Value.int IntKind.u32 c7]) = (448 : Nat) ∧ True) ∧ o = putAt ts ((64 : Nat) + Int.toNat (slotI h) * 12) [Value.int IntKind.u32 (intAt ts ((64 : Nat) + Int.toNat (slotI h) * 12)), Value.int IntKind.i64 q, Value.slice none (0 : Nat) (0 : Nat), Value.int IntKind.i64 l, Value.int IntKind.u32 c0, Value.int IntKind.u32 c1, Value.int IntKind.u32 c2, Value.int IntKind.u32 c3, Value.int IntKind.u32 c4, Value.int IntKind.u32 c5, Value.int IntKind.u32 c6, Value.int IntKind.u32 c7] ∧ e = (0 : Int) ∧ True)) ∧ (((!decide (q ≤ (64 : Int))) == false) = false → (Array.size ts = (448 : Nat) ∧ True) ∧ (Array.size ts = (448 : Nat) ∧ Array.size ts = (448 : Nat) ∧ True) ∧ (Array.size ts = (448 : Nat) ∧ True) ∧ o = ts ∧ e = (2 : Int) ∧ True)) ∧ ((decide (q ≥ (0 : Int)) == true) = false → (Array.size ts = (448 : Nat) ∧ True) ∧ (Array.size ts = (448 : Nat) ∧ Array.size ts = (448 : Nat) ∧ True) ∧ (Array.size ts = (448 : Nat) ∧ True) ∧ o = ts ∧ e = (2 : Int) ∧ True))) := by kernel_rfl
theorem tt1 (ts : Array Value) (h : Int) (u q l c0 c1 c2 c3 c4 c5 c6 c7 : Int) (i off n : Nat) (cs : Array Value) (ty : TypeId) (b : Bool) (us : Array Value) (o k : Nat) (ds : Array Value) (e : Int) : (run ET0 1000 1 [callFr 15 Tryd.f15.ntmps [tbS ts, u32 h, rgV (rgC u q (.f (.slice 0 (.o off) (.o n) .any)) l c0 c1 c2 c3 c4 c5 c6 c7)] (Tryd.f15.body.getD .skip)] (popM cs ty)).vc (seR b us o k ds e) (fun _ _ => False) =
    ((64 ≤ Array.size ts ∧ True) ∧ (BkOk (Array.extract ts (0 : Nat) (64)) ∧ ((0 : Int) ≤ h ∧ h < (4294967296 : Int)) ∧ True) ∧ ((!goodB (Array.extract ts (0 : Nat) (64)) h) = true → (Array.size ts = (448 : Nat) ∧ True) ∧ (Array.size ts = (448 : Nat) ∧ Array.size ts = (448 : Nat) ∧ True) ∧ (Array.size ts = (448 : Nat) ∧ True) ∧ b = false ∧ us = ts ∧ e = (4 : Int) ∧ True) ∧ ((!goodB (Array.extract ts (0 : Nat) (64)) h) = false → ((decide (q ≥ (0 : Int)) == true) = true → (((!decide (q ≤ (64 : Int))) == false) = true → (PrOk cs off n ∧ True) ∧ ((!mayE cs off n l) = true → (Array.size ts = (448 : Nat) ∧ True) ∧ (Array.size ts = (448 : Nat) ∧ Array.size ts = (448 : Nat) ∧ True) ∧ (Array.size ts = (448 : Nat) ∧ True) ∧ b = false ∧ us = ts ∧ e = (2 : Int) ∧ True) ∧ ((!mayE cs off n l) = false → (((0 : Int) ≤ h ∧ h < (4294967296 : Int)) ∧ True) ∧ (((0 : Int) ≤ slotI h ∧ slotI h < (32 : Int)) ∧ True) ∧ (IsInt IntKind.u32 ts ((64 : Nat) + Int.toNat (slotI h) * 12) ∧ True) ∧ (PrOk cs off n ∧ True) ∧ (((0 : Int) ≤ h ∧ h < (4294967296 : Int)) ∧ True) ∧ (((0 : Int) ≤ slotI h ∧ slotI h < (32 : Int)) ∧ True) ∧ ((64 : Nat) + Int.toNat (slotI h) * 12 + List.length [Value.int IntKind.u32 (intAt ts ((64 : Nat) + Int.toNat (slotI h) * 12)), Value.int IntKind.i64 q, Value.slice none (0 : Nat) (0 : Nat), Value.int IntKind.i64 l, Value.int IntKind.u32 c0, Value.int IntKind.u32 c1, Value.int IntKind.u32 c2, Value.int IntKind.u32 c3, Value.int IntKind.u32 c4, Value.int IntKind.u32 c5, Value.int IntKind.u32 c6, Value.int IntKind.u32 c7] ≤ Array.size ts ∧ True) ∧ (Array.size (putAt ts ((64 : Nat) + Int.toNat (slotI h) * 12) [Value.int IntKind.u32 (intAt ts ((64 : Nat) + Int.toNat (slotI h) * 12)), Value.int IntKind.i64 q, Value.slice none (0 : Nat) (0 : Nat), Value.int IntKind.i64 l, Value.int IntKind.u32 c0, Value.int IntKind.u32 c1, Value.int IntKind.u32 c2, Value.int IntKind.u32 c3, Value.int IntKind.u32 c4, Value.int IntKind.u32 c5, Value.int IntKind.u32 c6, Value.int IntKind.u32 c7]) = (448 : Nat) ∧ True) ∧ (Array.size (putAt ts ((64 : Nat) + Int.toNat (slotI h) * 12) [Value.int IntKind.u32 (intAt ts ((64 : Nat) + Int.toNat (slotI h) * 12)), Value.int IntKind.i64 q, Value.slice none (0 : Nat) (0 : Nat), Value.int IntKind.i64 l, Value.int IntKind.u32 c0, Value.int IntKind.u32 c1, Value.int IntKind.u32 c2, Value.int IntKind.u32 c3, Value.int IntKind.u32 c4, Value.int IntKind.u32 c5, Value.int IntKind.u32 c6, Value.int IntKind.u32 c7]) = (448 : Nat) ∧ Array.size (putAt ts ((64 : Nat) + Int.toNat (slotI h) * 12) [Value.int IntKind.u32 (intAt ts ((64 : Nat) + Int.toNat (slotI h) * 12)), Value.int IntKind.i64 q, Value.slice none (0 : Nat) (0 : Nat), Value.int IntKind.i64 l, Value.int IntKind.u32 c0, Value.int IntKind.u32 c1, Value.int IntKind.u32 c2, Value.int IntKind.u32 c3, Value.int IntKind.u32 c4, Value.int IntKind.u32 c5, Value.int IntKind.u32 c6, Value.int IntKind.u32 c7]) = (448 : Nat) ∧ True) ∧ (Array.size (putAt ts ((64 : Nat) + Int.toNat (slotI h) * 12) [Value.int IntKind.u32 (intAt ts ((64 : Nat) + Int.toNat (slotI h) * 12)), Value.int IntKind.i64 q, Value.slice none (0 : Nat) (0 : Nat), Value.int IntKind.i64 l, Value.int IntKind.u32 c0, Value.int IntKind.u32 c1, Value.int IntKind.u32 c2, Value.int IntKind.u32 c3, Value.int IntKind.u32 c4, Value.int IntKind.u32 c5, Value.int IntKind.u32 c6, Value.int IntKind.u32 c7]) = (448 : Nat) ∧ True) ∧ b = true ∧ us = putAt ts ((64 : Nat) + Int.toNat (slotI h) * 12) [Value.int IntKind.u32 (intAt ts ((64 : Nat) + Int.toNat (slotI h) * 12)), Value.int IntKind.i64 q, Value.slice none (0 : Nat) (0 : Nat), Value.int IntKind.i64 l, Value.int IntKind.u32 c0, Value.int IntKind.u32 c1, Value.int IntKind.u32 c2, Value.int IntKind.u32 c3, Value.int IntKind.u32 c4, Value.int IntKind.u32 c5, Value.int IntKind.u32 c6, Value.int IntKind.u32 c7] ∧ o = (64 : Nat) + Int.toNat (slotI h) * 12 + 2 ∧ k = n ∧ e = (0 : Int) ∧ (89 : TypeId) = (89 : TypeId) ∧ ds = Array.extract cs off (off + n * 2) ∧ True)) ∧ (((!decide (q ≤ (64 : Int))) == false) = false → (Array.size ts = (448 : Nat) ∧ True) ∧ (Array.size ts = (448 : Nat) ∧ Array.size ts = (448 : Nat) ∧ True) ∧ (Array.size ts = (448 : Nat) ∧ True) ∧ b = false ∧ us = ts ∧ e = (2 : Int) ∧ True)) ∧ ((decide (q ≥ (0 : Int)) == true) = false → (Array.size ts = (448 : Nat) ∧ True) ∧ (Array.size ts = (448 : Nat) ∧ Array.size ts = (448 : Nat) ∧ True) ∧ (Array.size ts = (448 : Nat) ∧ True) ∧ b = false ∧ us = ts ∧ e = (2 : Int) ∧ True))) := by kernel_rfl
theorem td0 (ts : Array Value) (h : Int) (o : Array Value) (e : Int) : (run ET0 1000 0 [callFr 14 Tryd.f14.ntmps [tbS ts, u32 h] (Tryd.f14.body.getD .skip)] e0M).vc (retOk 0 [] (rgS o e) e0M) (fun _ _ => False) =
    ((64 ≤ Array.size ts ∧ True) ∧ (BkOk (Array.extract ts (0 : Nat) (64)) ∧ ((0 : Int) ≤ h ∧ h < (4294967296 : Int)) ∧ True) ∧ (Array.size (voidB (Array.extract ts (0 : Nat) (64)) h) = (64 : Nat) ∧ Array.size (voidB (Array.extract ts (0 : Nat) (64)) h) = (64 : Nat) ∧ True) ∧ ((!goodB (Array.extract ts (0 : Nat) (64)) h) = true → (Array.size ts = (448 : Nat) ∧ True) ∧ (Array.size ts = (448 : Nat) ∧ Array.size ts = (448 : Nat) ∧ True) ∧ (Array.size ts = (448 : Nat) ∧ True) ∧ o = ts ∧ e = (4 : Int) ∧ True) ∧ ((!goodB (Array.extract ts (0 : Nat) (64)) h) = false → (Array.size (voidB (Array.extract ts (0 : Nat) (64)) h) = (64 : Nat) ∧ True) ∧ (Array.size (voidB (Array.extract ts (0 : Nat) (64)) h) = (64 : Nat) ∧ (0 : Nat) + Array.size (voidB (Array.extract ts (0 : Nat) (64)) h) ≤ Array.size ts ∧ True) ∧ (((0 : Int) ≤ h ∧ h < (4294967296 : Int)) ∧ True) ∧ (((0 : Int) ≤ slotI h ∧ slotI h < (32 : Int)) ∧ True) ∧ ((64 : Nat) + Int.toNat (slotI h) * 12 + 12 ≤ Array.size (putAt ts (0 : Nat) (Array.toList (voidB (Array.extract ts (0 : Nat) (64)) h))) ∧ True) ∧ (Array.size (putAt (putAt ts (0 : Nat) (Array.toList (voidB (Array.extract ts (0 : Nat) (64)) h))) ((64 : Nat) + Int.toNat (slotI h) * 12) [Value.int IntKind.u32 (0 : Int), Value.int IntKind.i64 (0 : Int), Value.slice none (0 : Nat) (0 : Nat), Value.int IntKind.i64 (0 : Int), Value.int IntKind.u32 (0 : Int), Value.int IntKind.u32 (0 : Int), Value.int IntKind.u32 (0 : Int), Value.int IntKind.u32 (0 : Int), Value.int IntKind.u32 (0 : Int), Value.int IntKind.u32 (0 : Int), Value.int IntKind.u32 (0 : Int), Value.int IntKind.u32 (0 : Int)]) = (448 : Nat) ∧ True) ∧ (Array.size (putAt (putAt ts (0 : Nat) (Array.toList (voidB (Array.extract ts (0 : Nat) (64)) h))) ((64 : Nat) + Int.toNat (slotI h) * 12) [Value.int IntKind.u32 (0 : Int), Value.int IntKind.i64 (0 : Int), Value.slice none (0 : Nat) (0 : Nat), Value.int IntKind.i64 (0 : Int), Value.int IntKind.u32 (0 : Int), Value.int IntKind.u32 (0 : Int), Value.int IntKind.u32 (0 : Int), Value.int IntKind.u32 (0 : Int), Value.int IntKind.u32 (0 : Int), Value.int IntKind.u32 (0 : Int), Value.int IntKind.u32 (0 : Int), Value.int IntKind.u32 (0 : Int)]) = (448 : Nat) ∧ Array.size (putAt (putAt ts (0 : Nat) (Array.toList (voidB (Array.extract ts (0 : Nat) (64)) h))) ((64 : Nat) + Int.toNat (slotI h) * 12) [Value.int IntKind.u32 (0 : Int), Value.int IntKind.i64 (0 : Int), Value.slice none (0 : Nat) (0 : Nat), Value.int IntKind.i64 (0 : Int), Value.int IntKind.u32 (0 : Int), Value.int IntKind.u32 (0 : Int), Value.int IntKind.u32 (0 : Int), Value.int IntKind.u32 (0 : Int), Value.int IntKind.u32 (0 : Int), Value.int IntKind.u32 (0 : Int), Value.int IntKind.u32 (0 : Int), Value.int IntKind.u32 (0 : Int)]) = (448 : Nat) ∧ True) ∧ (Array.size (putAt (putAt ts (0 : Nat) (Array.toList (voidB (Array.extract ts (0 : Nat) (64)) h))) ((64 : Nat) + Int.toNat (slotI h) * 12) [Value.int IntKind.u32 (0 : Int), Value.int IntKind.i64 (0 : Int), Value.slice none (0 : Nat) (0 : Nat), Value.int IntKind.i64 (0 : Int), Value.int IntKind.u32 (0 : Int), Value.int IntKind.u32 (0 : Int), Value.int IntKind.u32 (0 : Int), Value.int IntKind.u32 (0 : Int), Value.int IntKind.u32 (0 : Int), Value.int IntKind.u32 (0 : Int), Value.int IntKind.u32 (0 : Int), Value.int IntKind.u32 (0 : Int)]) = (448 : Nat) ∧ True) ∧ o = putAt (putAt ts (0 : Nat) (Array.toList (voidB (Array.extract ts (0 : Nat) (64)) h))) ((64 : Nat) + Int.toNat (slotI h) * 12) [Value.int IntKind.u32 (0 : Int), Value.int IntKind.i64 (0 : Int), Value.slice none (0 : Nat) (0 : Nat), Value.int IntKind.i64 (0 : Int), Value.int IntKind.u32 (0 : Int), Value.int IntKind.u32 (0 : Int), Value.int IntKind.u32 (0 : Int), Value.int IntKind.u32 (0 : Int), Value.int IntKind.u32 (0 : Int), Value.int IntKind.u32 (0 : Int), Value.int IntKind.u32 (0 : Int), Value.int IntKind.u32 (0 : Int)] ∧ e = (0 : Int) ∧ True)) := by kernel_rfl
theorem tn0 (ts : Array Value) (h q : Int) (o : Array Value) (k e : Int) : (run ET0 1000 0 [callFr 18 Tryd.f18.ntmps [tbS ts, u32 h, i64 (.o q)] (Tryd.f18.body.getD .skip)] e0M).vc (retOk 0 [] (.tup [.agg (.op o), .c (.f (.int .u32 (.o k))), .c (.f (.int .i64 (.o e)))]) e0M) (fun _ _ => False) =
    ((((h != (0 : Int)) == true) = true → (64 ≤ Array.size ts ∧ True) ∧ (BkOk (Array.extract ts (0 : Nat) (64)) ∧ ((0 : Int) ≤ h ∧ h < (4294967296 : Int)) ∧ True) ∧ ((!goodB (Array.extract ts (0 : Nat) (64)) h) = true → (Array.size ts = (448 : Nat) ∧ True) ∧ (Array.size ts = (448 : Nat) ∧ Array.size ts = (448 : Nat) ∧ True) ∧ (Array.size ts = (448 : Nat) ∧ True) ∧ o = ts ∧ k = (0 : Int) ∧ e = (4 : Int) ∧ True) ∧ ((!goodB (Array.extract ts (0 : Nat) (64)) h) = false → ((decide (q ≥ (0 : Int)) == true) = true → ((!decide (q ≤ (64 : Int))) = true → (Array.size ts = (448 : Nat) ∧ True) ∧ (Array.size ts = (448 : Nat) ∧ Array.size ts = (448 : Nat) ∧ True) ∧ (Array.size ts = (448 : Nat) ∧ True) ∧ o = ts ∧ k = (0 : Int) ∧ e = (2 : Int) ∧ True) ∧ ((!decide (q ≤ (64 : Int))) = false → (64 ≤ Array.size ts ∧ True) ∧ (BkOk (Array.extract ts (0 : Nat) (64)) ∧ True) ∧ (Array.size (issueB (Array.extract ts (0 : Nat) (64))) = (64 : Nat) ∧ Array.size (issueB (Array.extract ts (0 : Nat) (64))) = (64 : Nat) ∧ True) ∧ ((!issueOk (Array.extract ts (0 : Nat) (64))) = true → (Array.size ts = (448 : Nat) ∧ True) ∧ (Array.size ts = (448 : Nat) ∧ Array.size ts = (448 : Nat) ∧ True) ∧ (Array.size ts = (448 : Nat) ∧ True) ∧ o = ts ∧ k = (0 : Int) ∧ e = (7 : Int) ∧ True) ∧ ((!issueOk (Array.extract ts (0 : Nat) (64))) = false → (Array.size (issueB (Array.extract ts (0 : Nat) (64))) = (64 : Nat) ∧ True) ∧ (Array.size (issueB (Array.extract ts (0 : Nat) (64))) = (64 : Nat) ∧ (0 : Nat) + Array.size (issueB (Array.extract ts (0 : Nat) (64))) ≤ Array.size ts ∧ True) ∧ (((0 : Int) ≤ issueI (Array.extract ts (0 : Nat) (64)) ∧ issueI (Array.extract ts (0 : Nat) (64)) < (4294967296 : Int)) ∧ True) ∧ (((0 : Int) ≤ slotI (issueI (Array.extract ts (0 : Nat) (64))) ∧ slotI (issueI (Array.extract ts (0 : Nat) (64))) < (32 : Int)) ∧ True) ∧ ((64 : Nat) + Int.toNat (slotI (issueI (Array.extract ts (0 : Nat) (64)))) * 12 + List.length [Value.int IntKind.u32 h, Value.int IntKind.i64 q, Value.slice none (0 : Nat) (0 : Nat), Value.int IntKind.i64 (0 : Int), Value.int IntKind.u32 (0 : Int), Value.int IntKind.u32 (0 : Int), Value.int IntKind.u32 (0 : Int), Value.int IntKind.u32 (0 : Int), Value.int IntKind.u32 (0 : Int), Value.int IntKind.u32 (0 : Int), Value.int IntKind.u32 (0 : Int), Value.int IntKind.u32 (0 : Int)] ≤ Array.size (putAt ts (0 : Nat) (Array.toList (issueB (Array.extract ts (0 : Nat) (64))))) ∧ True) ∧ (Array.size (putAt (putAt ts (0 : Nat) (Array.toList (issueB (Array.extract ts (0 : Nat) (64))))) ((64 : Nat) + Int.toNat (slotI (issueI (Array.extract ts (0 : Nat) (64)))) * 12) [Value.int IntKind.u32 h, Value.int IntKind.i64 q, Value.slice none (0 : Nat) (0 : Nat), Value.int IntKind.i64 (0 : Int), Value.int IntKind.u32 (0 : Int), Value.int IntKind.u32 (0 : Int), Value.int IntKind.u32 (0 : Int), Value.int IntKind.u32 (0 : Int), Value.int IntKind.u32 (0 : Int), Value.int IntKind.u32 (0 : Int), Value.int IntKind.u32 (0 : Int), Value.int IntKind.u32 (0 : Int)]) = (448 : Nat) ∧ True) ∧ (Array.size (putAt (putAt ts (0 : Nat) (Array.toList (issueB (Array.extract ts (0 : Nat) (64))))) ((64 : Nat) + Int.toNat (slotI (issueI (Array.extract ts (0 : Nat) (64)))) * 12) [Value.int IntKind.u32 h, Value.int IntKind.i64 q, Value.slice none (0 : Nat) (0 : Nat), Value.int IntKind.i64 (0 : Int), Value.int IntKind.u32 (0 : Int), Value.int IntKind.u32 (0 : Int), Value.int IntKind.u32 (0 : Int), Value.int IntKind.u32 (0 : Int), Value.int IntKind.u32 (0 : Int), Value.int IntKind.u32 (0 : Int), Value.int IntKind.u32 (0 : Int), Value.int IntKind.u32 (0 : Int)]) = (448 : Nat) ∧ Array.size (putAt (putAt ts (0 : Nat) (Array.toList (issueB (Array.extract ts (0 : Nat) (64))))) ((64 : Nat) + Int.toNat (slotI (issueI (Array.extract ts (0 : Nat) (64)))) * 12) [Value.int IntKind.u32 h, Value.int IntKind.i64 q, Value.slice none (0 : Nat) (0 : Nat), Value.int IntKind.i64 (0 : Int), Value.int IntKind.u32 (0 : Int), Value.int IntKind.u32 (0 : Int), Value.int IntKind.u32 (0 : Int), Value.int IntKind.u32 (0 : Int), Value.int IntKind.u32 (0 : Int), Value.int IntKind.u32 (0 : Int), Value.int IntKind.u32 (0 : Int), Value.int IntKind.u32 (0 : Int)]) = (448 : Nat) ∧ True) ∧ (Array.size (putAt (putAt ts (0 : Nat) (Array.toList (issueB (Array.extract ts (0 : Nat) (64))))) ((64 : Nat) + Int.toNat (slotI (issueI (Array.extract ts (0 : Nat) (64)))) * 12) [Value.int IntKind.u32 h, Value.int IntKind.i64 q, Value.slice none (0 : Nat) (0 : Nat), Value.int IntKind.i64 (0 : Int), Value.int IntKind.u32 (0 : Int), Value.int IntKind.u32 (0 : Int), Value.int IntKind.u32 (0 : Int), Value.int IntKind.u32 (0 : Int), Value.int IntKind.u32 (0 : Int), Value.int IntKind.u32 (0 : Int), Value.int IntKind.u32 (0 : Int), Value.int IntKind.u32 (0 : Int)]) = (448 : Nat) ∧ True) ∧ o = putAt (putAt ts (0 : Nat) (Array.toList (issueB (Array.extract ts (0 : Nat) (64))))) ((64 : Nat) + Int.toNat (slotI (issueI (Array.extract ts (0 : Nat) (64)))) * 12) [Value.int IntKind.u32 h, Value.int IntKind.i64 q, Value.slice none (0 : Nat) (0 : Nat), Value.int IntKind.i64 (0 : Int), Value.int IntKind.u32 (0 : Int), Value.int IntKind.u32 (0 : Int), Value.int IntKind.u32 (0 : Int), Value.int IntKind.u32 (0 : Int), Value.int IntKind.u32 (0 : Int), Value.int IntKind.u32 (0 : Int), Value.int IntKind.u32 (0 : Int), Value.int IntKind.u32 (0 : Int)] ∧ k = issueI (Array.extract ts (0 : Nat) (64)) ∧ e = (0 : Int) ∧ True))) ∧ ((decide (q ≥ (0 : Int)) == true) = false → (Array.size ts = (448 : Nat) ∧ True) ∧ (Array.size ts = (448 : Nat) ∧ Array.size ts = (448 : Nat) ∧ True) ∧ (Array.size ts = (448 : Nat) ∧ True) ∧ o = ts ∧ k = (0 : Int) ∧ e = (2 : Int) ∧ True))) ∧ (((h != (0 : Int)) == true) = false → ((decide (q ≥ (0 : Int)) == true) = true → ((!decide (q ≤ (64 : Int))) = true → (Array.size ts = (448 : Nat) ∧ True) ∧ (Array.size ts = (448 : Nat) ∧ Array.size ts = (448 : Nat) ∧ True) ∧ (Array.size ts = (448 : Nat) ∧ True) ∧ o = ts ∧ k = (0 : Int) ∧ e = (2 : Int) ∧ True) ∧ ((!decide (q ≤ (64 : Int))) = false → (64 ≤ Array.size ts ∧ True) ∧ (BkOk (Array.extract ts (0 : Nat) (64)) ∧ True) ∧ (Array.size (issueB (Array.extract ts (0 : Nat) (64))) = (64 : Nat) ∧ Array.size (issueB (Array.extract ts (0 : Nat) (64))) = (64 : Nat) ∧ True) ∧ ((!issueOk (Array.extract ts (0 : Nat) (64))) = true → (Array.size ts = (448 : Nat) ∧ True) ∧ (Array.size ts = (448 : Nat) ∧ Array.size ts = (448 : Nat) ∧ True) ∧ (Array.size ts = (448 : Nat) ∧ True) ∧ o = ts ∧ k = (0 : Int) ∧ e = (7 : Int) ∧ True) ∧ ((!issueOk (Array.extract ts (0 : Nat) (64))) = false → (Array.size (issueB (Array.extract ts (0 : Nat) (64))) = (64 : Nat) ∧ True) ∧ (Array.size (issueB (Array.extract ts (0 : Nat) (64))) = (64 : Nat) ∧ (0 : Nat) + Array.size (issueB (Array.extract ts (0 : Nat) (64))) ≤ Array.size ts ∧ True) ∧ (((0 : Int) ≤ issueI (Array.extract ts (0 : Nat) (64)) ∧ issueI (Array.extract ts (0 : Nat) (64)) < (4294967296 : Int)) ∧ True) ∧ (((0 : Int) ≤ slotI (issueI (Array.extract ts (0 : Nat) (64))) ∧ slotI (issueI (Array.extract ts (0 : Nat) (64))) < (32 : Int)) ∧ True) ∧ ((64 : Nat) + Int.toNat (slotI (issueI (Array.extract ts (0 : Nat) (64)))) * 12 + List.length [Value.int IntKind.u32 h, Value.int IntKind.i64 q, Value.slice none (0 : Nat) (0 : Nat), Value.int IntKind.i64 (0 : Int), Value.int IntKind.u32 (0 : Int), Value.int IntKind.u32 (0 : Int), Value.int IntKind.u32 (0 : Int), Value.int IntKind.u32 (0 : Int), Value.int IntKind.u32 (0 : Int), Value.int IntKind.u32 (0 : Int), Value.int IntKind.u32 (0 : Int), Value.int IntKind.u32 (0 : Int)] ≤ Array.size (putAt ts (0 : Nat) (Array.toList (issueB (Array.extract ts (0 : Nat) (64))))) ∧ True) ∧ (Array.size (putAt (putAt ts (0 : Nat) (Array.toList (issueB (Array.extract ts (0 : Nat) (64))))) ((64 : Nat) + Int.toNat (slotI (issueI (Array.extract ts (0 : Nat) (64)))) * 12) [Value.int IntKind.u32 h, Value.int IntKind.i64 q, Value.slice none (0 : Nat) (0 : Nat), Value.int IntKind.i64 (0 : Int), Value.int IntKind.u32 (0 : Int), Value.int IntKind.u32 (0 : Int), Value.int IntKind.u32 (0 : Int), Value.int IntKind.u32 (0 : Int), Value.int IntKind.u32 (0 : Int), Value.int IntKind.u32 (0 : Int), Value.int IntKind.u32 (0 : Int), Value.int IntKind.u32 (0 : Int)]) = (448 : Nat) ∧ True) ∧ (Array.size (putAt (putAt ts (0 : Nat) (Array.toList (issueB (Array.extract ts (0 : Nat) (64))))) ((64 : Nat) + Int.toNat (slotI (issueI (Array.extract ts (0 : Nat) (64)))) * 12) [Value.int IntKind.u32 h, Value.int IntKind.i64 q, Value.slice none (0 : Nat) (0 : Nat), Value.int IntKind.i64 (0 : Int), Value.int IntKind.u32 (0 : Int), Value.int IntKind.u32 (0 : Int), Value.int IntKind.u32 (0 : Int), Value.int IntKind.u32 (0 : Int), Value.int IntKind.u32 (0 : Int), Value.int IntKind.u32 (0 : Int), Value.int IntKind.u32 (0 : Int), Value.int IntKind.u32 (0 : Int)]) = (448 : Nat) ∧ Array.size (putAt (putAt ts (0 : Nat) (Array.toList (issueB (Array.extract ts (0 : Nat) (64))))) ((64 : Nat) + Int.toNat (slotI (issueI (Array.extract ts (0 : Nat) (64)))) * 12) [Value.int IntKind.u32 h, Value.int IntKind.i64 q, Value.slice none (0 : Nat) (0 : Nat), Value.int IntKind.i64 (0 : Int), Value.int IntKind.u32 (0 : Int), Value.int IntKind.u32 (0 : Int), Value.int IntKind.u32 (0 : Int), Value.int IntKind.u32 (0 : Int), Value.int IntKind.u32 (0 : Int), Value.int IntKind.u32 (0 : Int), Value.int IntKind.u32 (0 : Int), Value.int IntKind.u32 (0 : Int)]) = (448 : Nat) ∧ True) ∧ (Array.size (putAt (putAt ts (0 : Nat) (Array.toList (issueB (Array.extract ts (0 : Nat) (64))))) ((64 : Nat) + Int.toNat (slotI (issueI (Array.extract ts (0 : Nat) (64)))) * 12) [Value.int IntKind.u32 h, Value.int IntKind.i64 q, Value.slice none (0 : Nat) (0 : Nat), Value.int IntKind.i64 (0 : Int), Value.int IntKind.u32 (0 : Int), Value.int IntKind.u32 (0 : Int), Value.int IntKind.u32 (0 : Int), Value.int IntKind.u32 (0 : Int), Value.int IntKind.u32 (0 : Int), Value.int IntKind.u32 (0 : Int), Value.int IntKind.u32 (0 : Int), Value.int IntKind.u32 (0 : Int)]) = (448 : Nat) ∧ True) ∧ o = putAt (putAt ts (0 : Nat) (Array.toList (issueB (Array.extract ts (0 : Nat) (64))))) ((64 : Nat) + Int.toNat (slotI (issueI (Array.extract ts (0 : Nat) (64)))) * 12) [Value.int IntKind.u32 h, Value.int IntKind.i64 q, Value.slice none (0 : Nat) (0 : Nat), Value.int IntKind.i64 (0 : Int), Value.int IntKind.u32 (0 : Int), Value.int IntKind.u32 (0 : Int), Value.int IntKind.u32 (0 : Int), Value.int IntKind.u32 (0 : Int), Value.int IntKind.u32 (0 : Int), Value.int IntKind.u32 (0 : Int), Value.int IntKind.u32 (0 : Int), Value.int IntKind.u32 (0 : Int)] ∧ k = issueI (Array.extract ts (0 : Nat) (64)) ∧ e = (0 : Int) ∧ True))) ∧ ((decide (q ≥ (0 : Int)) == true) = false → (Array.size ts = (448 : Nat) ∧ True) ∧ (Array.size ts = (448 : Nat) ∧ Array.size ts = (448 : Nat) ∧ True) ∧ (Array.size ts = (448 : Nat) ∧ True) ∧ o = ts ∧ k = (0 : Int) ∧ e = (2 : Int) ∧ True))) := by kernel_rfl
end Go.Proofs.YtjjeahnbppmigaaDoor
/- Of tables: Get, Set: contracts. No condition. -/
namespace Go.Proofs.YtjjeahnbppmigaaDoor
set_option linter.unusedSectionVars false
variable [Gh]
set_option maxRecDepth 100000
set_option linter.unusedSimpArgs false
set_option linter.unusedVariables false
omit [Gh] in
theorem den_u {R : Ren} {k : IntKind} {n : SI} {v : Value} (h : (SV.s (.c (.f (.int k n)))).ok R v) : (SV.s (.c (.f (.int k (.o n.den))))).ok R v := h
theorem conT0_ok : ∀ g l m t, conT0 g l m = some t → Con E0 g l m t := by
  intro g l m t h
  unfold conT0 at h
  split at h
  · rename_i x; cases h
    refine Con.asked fun hq => Con.args (l' := [u32 x.den]) (fun R vs ha => by
      match vs, ha with
      | [v], ha => exact ⟨ha.1, trivial⟩) ?_
    intro A hs
    exact slot_con x.den m A ⟨fun p hp => hq p hp, hs⟩
  · rename_i bs x; cases h
    refine Con.asked fun hq => Con.args (l' := [bkS bs, u32 x.den]) (fun R vs ha => by
      match vs, ha with
      | [v, w], ha => exact ⟨ha.1, ha.2.1, trivial⟩) ?_
    intro A hs
    exact good_con x.den m A ⟨fun p hp => hq p hp, hs⟩
  · rename_i bs x; cases h
    refine Con.asked fun hq => Con.args (l' := [bkS bs, i64 (.o x.den)]) (fun R vs ha => by
      match vs, ha with
      | [v, w], ha => exact ⟨ha.1, ha.2.1, trivial⟩) ?_
    intro A hs
    exact at_con x.den m A ⟨fun p hp => hq p hp, hs⟩
  · rename_i bs x; cases h
    refine Con.asked fun hq => Con.args (l' := [bkS bs, u32 x.den]) (fun R vs ha => by
      match vs, ha with
      | [v, w], ha => exact ⟨ha.1, ha.2.1, trivial⟩) ?_
    intro A hs
    exact void_con x.den m A ⟨fun p hp => hq p hp, hs⟩
  · rename_i bs; cases h
    refine Con.asked fun hq => ?_
    intro A hs
    exact issue_con m A ⟨fun p hp => hq p hp, hs⟩
  · rename_i bs; cases h
    exact issued_con m
  · rename_i v; cases h
    exact clone_val v m
  · cases h
    exact clone_nil m
  · rename_i i o n cap
    split at h
    · rename_i hb; cases h; exact clone_named hb
    · cases h
  · rename_i i o n cap x
    split at h
    · rename_i hb; cases h; exact mayx_con hb
    · cases h
  · rename_i x; cases h
    refine Con.args (l' := [exS nilC x.den]) (fun R vs ha => ?_) (may_nil x.den m)
    match vs, ha with
    | [u], ha =>
      obtain ⟨⟨ds, e, hd⟩, _⟩ := ha
      refine ⟨⟨ds, e, ?_⟩, trivial⟩
      have hd : All2 (SC.ok R) [.f (.lit (.slice none 0 0)), .f (.int .i64 x)] ds.toList := hd
      show All2 (SC.ok R) [nilC, .f (.int .i64 (.o x.den))] ds.toList
      generalize ds.toList = T at hd ⊢
      match T, hd with
      | [a, b], hd => exact ⟨hd.1, hd.2.1, trivial⟩
  · cases h
theorem ET0_ok : EnvOk ET0 := EnvOk.with E0_ok _ _ conT0_ok
section
variable {ts rr : Array Value} {h : Int}
omit [Gh] in
def sl (h : Int) : Nat := (slotI h).toNat
omit [Gh] in
def pl (h : Int) : Nat := 64 + sl h * 12
omit [Gh] in
def gdF (ts : Array Value) (h : Int) : Bool := goodB (bkB ts) h
omit [Gh] in
def upR (ts : Array Value) (h : Int) : Int := intAt ts (pl h)
omit [Gh] in
def upF (ts : Array Value) (h : Int) : Int := if gdF ts h = true then (if gdF ts (upR ts h) = true then upR ts h else 0) else 0
omit [Gh] in
def quF (ts : Array Value) (h : Int) : Int := intAt ts (pl h + 1)
omit [Gh] in
def ceF (ts : Array Value) (h : Int) (k : Nat) : Int := intAt ts (pl h + 4 + k)
omit [Gh] in
def slF (ts : Array Value) (h : Int) : Value := valAt ts (pl h + 2)
omit [Gh] in
def lnF (ts : Array Value) (h : Int) : Int := intAt ts (pl h + 3)
omit [Gh] in
def rgA (u q n : Int) (c : Nat → Int) : Array Value := #[.int .u32 u, .int .i64 q, .slice none 0 0, .int .i64 n, .int .u32 (c 0), .int .u32 (c 1), .int .u32 (c 2), .int .u32 (c 3), .int .u32 (c 4), .int .u32 (c 5), .int .u32 (c 6), .int .u32 (c 7)]
omit [Gh] in
def gtC (ts : Array Value) (h : Int) (x : SC) : List SC := rgC (upF ts h) (quF ts h) x (lnF ts h) (ceF ts h 0) (ceF ts h 1) (ceF ts h 2) (ceF ts h 3) (ceF ts h 4) (ceF ts h 5) (ceF ts h 6) (ceF ts h 7)
omit [Gh] in
def zeC : List SC := rgC 0 0 nilC 0 0 0 0 0 0 0 0 0
omit [Gh] in
def getX5 (ts : Array Value) (h : Int) : Int := if gdF ts h = true then 0 else 4
theorem good_f (hb : TbOk ts) (hg : gdF ts h = true) : 0 ≤ slotI h ∧ slotI h < 32 ∧ sl h < 32 ∧ kindAt (bkB ts) (sl h) = 1 ∧ h = nameI (sl h) (ageAt (bkB ts) (sl h)) ∧ inH h ∧ 1 ≤ h := by
  obtain ⟨i, hi, hk, e⟩ := (goodB_iff hb.bk).1 hg
  obtain ⟨g1, g2⟩ := goodB_in hb.bk hg
  have es : sl h = i := by rw [e]; exact slotI_name hi (hb.bk.ra i hi)
  have := slotI_lt g1
  exact ⟨this.1, by unfold sl at es; omega, by omega, by rw [es]; exact hk, by rw [es]; exact e, g1, g2⟩
omit [Gh] in
theorem bk_f (ts : Array Value) : ts.extract 0 64 = bkB ts := rfl

omit [Gh] in
theorem geR_nil {u q l c0 c1 c2 c3 c4 c5 c6 c7 e : Int} {n : Nat} {cs : Array Value} {s : SV} {m : SMem} (h : geR false u q l c0 c1 c2 c3 c4 c5 c6 c7 e n cs s m) : retOk 0 [] (.tup [.agg (.ls (rgC u q nilC l c0 c1 c2 c3 c4 c5 c6 c7)), .c (.f (.int .i64 (.o e)))]) e0M s m := by
  unfold geR at h
  split at h
  · cases h.1
  · exact h.2
omit [Gh] in
theorem geR_row {u q l c0 c1 c2 c3 c4 c5 c6 c7 e : Int} {n : Nat} {cs : Array Value} {s : SV} {m : SMem} (h : geR true u q l c0 c1 c2 c3 c4 c5 c6 c7 e n cs s m) : ∃ π, retOk 0 π (.tup [.agg (.ls (rgC u q (slC 0 n) l c0 c1 c2 c3 c4 c5 c6 c7)), .c (.f (.int .i64 (.o e)))]) (mkM 1 [(0, ⟨.pop cs, 89, true⟩)]) s m := by
  unfold geR at h
  split at h
  · exact ⟨_, h.2⟩
  · cases h.1
omit [Gh] in
theorem seR_no {us : Array Value} {o n : Nat} {cs : Array Value} {e : Int} {s : SV} {m : SMem} (h : seR false us o n cs e s m) : retOk 1 [] (rgS us e) (mkM 1 []) s m := by
  unfold seR at h
  split at h
  · cases h.1
  · exact h.2
omit [Gh] in
theorem seR_row {us : Array Value} {o n : Nat} {cs : Array Value} {e : Int} {s : SV} {m : SMem} (h : seR true us o n cs e s m) : ∃ π, retOk 1 π (.tup [.agg (.patch us o (.slice 1 (.l 0) (.o n) (.full 2))), .c (.f (.int .i64 (.o e)))]) (mkM 2 [(1, ⟨.pop cs, 89, true⟩)]) s m := by
  unfold seR at h
  split at h
  · exact ⟨_, h.2⟩
  · cases h.1
omit [Gh] in
def erS (e : Int) : S1 := .c (.f (.int .i64 (.o e)))
omit [Gh] in
def gtS (ts : Array Value) (h : Int) (x : SC) : SV := .tup [.agg (.ls (gtC ts h x)), erS 0]
omit [Gh] in
def zeS : SV := .tup [.agg (.ls zeC), erS 4]
noncomputable def getT (ts : Array Value) (h : Int) (m : SMem) : Tree := .need [TbOk ts, inH h] (.br (gdF ts h) (.br (decide (nV (slF ts h) = 0)) (.ret (gtS ts h nilC) m) (.ret (gtS ts h (slC m.next (nV (slF ts h)))) (m.new (.pop (rowK (slF ts h))) 89))) (.ret zeS m))
omit [Gh] in
theorem tup_mid {R R' : Ren} {c c' : SC} (hc : ∀ v, c.ok R v → c'.ok R' v) {x y : List SC} (hx : allB (SC.lt 0) x = true) (hy : allB (SC.lt 0) y = true) {e : Int} {v : Value} (h : (SV.tup [.agg (.ls (x ++ c :: y)), erS e]).ok R v) : (SV.tup [.agg (.ls (x ++ c' :: y)), erS e]).ok R' v := by
  obtain ⟨vs, rfl, h⟩ := h
  refine ⟨vs, rfl, ?_⟩
  generalize vs.toList = T at h ⊢
  match T, h with
  | [a, b], h => exact ⟨agg_mid hc hx hy h.1, h.2.1, trivial⟩
theorem get_con (h : Int) (m : SMem) : Con E0 10 [tbS ts, u32 h] m (getT ts h m) := by
  refine Con.asked fun hq => ?_
  have hb : TbOk ts := hq _ (by simp)
  have hh : inH h := hq _ (by simp)
  have hh' : 0 ≤ h ∧ h < 4294967296 := hh
  have hs := hb.sz
  have hle : 64 ≤ ts.size := by omega
  have h64 : (64 : Nat) ≤ 448 := by decide
  have hbk : BkOk (bkB ts) := hb.bk
  have f1 : E0.fn 10 = some Tryd.f10 := by kernel_rfl
  have f2 : Tryd.f10.body = some (Tryd.f10.body.getD .skip) := by kernel_rfl
  have one : ∀ hg : gdF ts h = true, ∀ b : Bool, decide (nV (slF ts h) = 0) = !b → Good Tryd.prog (geR b (upF ts h) (quF ts h) (lnF ts h) (ceF ts h 0) (ceF ts h 1) (ceF ts h 2) (ceF ts h 3) (ceF ts h 4) (ceF ts h 5) (ceF ts h 6) (ceF ts h 7) 0 (nV (slF ts h)) (rowK (slF ts h))) 0 [callFr 10 Tryd.f10.ntmps [tbS ts, u32 h] (Tryd.f10.body.getD .skip)] e0M := by
    intro hg b hn
    refine run_vc ET0_ok 1000 (tg0 ts h b (upF ts h) (quF ts h) (lnF ts h) (ceF ts h 0) (ceF ts h 1) (ceF ts h 2) (ceF ts h 3) (ceF ts h 4) (ceF ts h 5) (ceF ts h 6) (ceF ts h 7) 0 (nV (slF ts h)) (rowK (slF ts h))) ?_ (fun s m h => h) fun _ _ h => h.elim
    have hg' : goodB (bkB ts) h = true := hg
    obtain ⟨s1, s2, s3, s4, s5, s6, s7⟩ := good_f hb hg
    have r := hb.rg _ s3
    have es : (slotI h).toNat = sl h := rfl
    have t0 : IsInt .u32 ts (64 + sl h * 12) := r.u
    have t1 : IsInt .i64 ts (64 + sl h * 12 + 1) := r.q
    have t2 : IsOne ts (64 + sl h * 12 + 2) := r.ro
    have t2' : SlV (valAt ts (64 + sl h * 12 + 2)) := r.r
    have t3 : IsInt .i64 ts (64 + sl h * 12 + 3) := r.l
    have t4 : IsInt .u32 ts (64 + sl h * 12 + 4) := r.c 0 (by decide)
    have t5 : IsInt .u32 ts (64 + sl h * 12 + 5) := r.c 1 (by decide)
    have t6 : IsInt .u32 ts (64 + sl h * 12 + 6) := r.c 2 (by decide)
    have t7 : IsInt .u32 ts (64 + sl h * 12 + 7) := r.c 3 (by decide)
    have t8 : IsInt .u32 ts (64 + sl h * 12 + 8) := r.c 4 (by decide)
    have t9 : IsInt .u32 ts (64 + sl h * 12 + 9) := r.c 5 (by decide)
    have t10 : IsInt .u32 ts (64 + sl h * 12 + 10) := r.c 6 (by decide)
    have t11 : IsInt .u32 ts (64 + sl h * 12 + 11) := r.c 7 (by decide)
    have hu : 0 ≤ intAt ts (64 + sl h * 12) ∧ intAt ts (64 + sl h * 12) < 4294967296 := r.hu
    have hn' : decide (nV (valAt ts (64 + sl h * 12 + 2)) = 0) = !b := hn
    cases hp : goodB (bkB ts) (intAt ts (64 + sl h * 12)) with
    | true =>
      have eu : upF ts h = intAt ts (64 + sl h * 12) := by unfold upF; rw [hg, if_pos rfl]; exact if_pos hp
      cases b <;> simp only [bk_f, hg', eu, es, hp, hn', hle, hbk, hh', hu, s1, s2, t0, t1, t2, t2', t3, t4, t5, t6, t7, t8, t9, t10, t11, Bool.not_true, Bool.not_false, true_implies, Bool.true_eq_false, Bool.false_eq_true, false_implies, and_true, true_and] <;> (repeat' first | exact trivial | exact rfl | apply And.intro)
    | false =>
      have eu : upF ts h = 0 := by unfold upF; rw [hg, if_pos rfl]; exact if_neg (fun k => by have k : goodB (bkB ts) (intAt ts (64 + sl h * 12)) = true := k; rw [hp] at k; cases k)
      cases b <;> simp only [bk_f, hg', eu, es, hp, hn', hle, hbk, hh', hu, s1, s2, t0, t1, t2, t2', t3, t4, t5, t6, t7, t8, t9, t10, t11, Bool.not_true, Bool.not_false, true_implies, Bool.true_eq_false, Bool.false_eq_true, false_implies, and_true, true_and] <;> (repeat' first | exact trivial | exact rfl | apply And.intro)
  refine Con.two (fun hg => Con.two (fun hn => ?_) (fun hn => ?_)) (fun hg => ?_)
  · have key : Con E0 10 [tbS ts, u32 h] m (needs [] (.ret (gtS ts h nilC) m)) := Con.pure E0_ok f1 f2 rfl rfl fun _ => (Good.ret [] ((one hg false hn).mono fun _ _ h => geR_nil h)).mono fun _ _ h => h.1
    intro A hA
    exact key A hA
  · have key : Con E0 10 [tbS ts, u32 h] m (needs [] (.ret (gtS ts h (slC m.next (nV (slF ts h)))) (m.new (.pop (rowK (slF ts h))) 89))) :=
      Con.seeS E0_ok (l' := [tbS ts, u32 h]) (ms := fun _ => ⟨0, .nil, []⟩) (S := fun id => gtS ts h (slC id (nV (slF ts h)))) (m0 := mkM 1 [(0, ⟨.pop (rowK (slF ts h)), 89, true⟩)]) (k0 := 0) f1 f2 (fun _ => Looks.flat fun R vs ha => ok_anys rfl ha) rfl
        (fun R R' id id' x w h1 h2 hv => tup_mid (x := [.f (.int .u32 (.o (upF ts h))), .f (.int .i64 (.o (quF ts h)))]) (fun v => slC_move h1 h2) rfl rfl hv) (by kernel_rfl) (fun _ ty => Good.retX ((one hg true hn).mono fun _ _ h => geR_row h))
    intro A hA
    exact key A hA
  · have key : Con E0 10 [tbS ts, u32 h] m (needs [] (.ret zeS m)) := Con.pure E0_ok f1 f2 rfl rfl fun _ => (Good.ret [] ((run_vc ET0_ok 1000 (tg0 ts h false 0 0 0 0 0 0 0 0 0 0 0 4 0 #[]) (by
      have hg' : goodB (bkB ts) h = false := hg
      simp only [bk_f, hg', hle, hbk, hh', Bool.not_false, true_implies, Bool.true_eq_false, Bool.false_eq_true, false_implies, and_true, true_and]
      repeat' first | exact trivial | exact rfl | apply And.intro) (fun s m h => h) fun _ _ h => h.elim).mono fun _ _ h => geR_nil h)).mono fun _ _ h => h.1
    intro A hA
    exact key A hA
/-! Rows put over regions. -/
omit [Gh] in
theorem put_bk {bs : Array Value} (hs : ts.size = 448) (hz : bs.size = 64) : (putAt ts 0 bs.toList).size = 448 ∧ bkB (putAt ts 0 bs.toList) = bs ∧ ∀ k, 64 ≤ k → (putAt ts 0 bs.toList)[k]? = ts[k]? := by
  have hl : bs.toList.length = 64 := by simpa using hz
  have h1 : (putAt ts 0 bs.toList).size = 448 := by rw [putAt_size (by omega)]; exact hs
  refine ⟨h1, ?_, fun k hk => putAt_out (by omega) (by omega)⟩
  apply Array.ext_getElem?
  intro j
  unfold bkB
  by_cases c : j < 64
  · rw [ext_get (by omega) (by omega), putAt_in (by omega) (by omega) (by omega), Array.getElem?_toList]
    congr 1
    omega
  · rw [Array.getElem?_eq_none (by rw [ext_size (by omega)]; omega), Array.getElem?_eq_none (by omega)]
omit [Gh] in
theorem put_rg (hs : ts.size = 448) {q : Nat} (hq : q < 32) {l : List Value} (hl : l.length = 12) : (putAt ts (64 + q * 12) l).size = 448 ∧ bkB (putAt ts (64 + q * 12) l) = bkB ts ∧ ∀ i j, i < 32 → j < 12 → (putAt ts (64 + q * 12) l)[64 + i * 12 + j]? = if i = q then l[j]? else ts[64 + i * 12 + j]? := by
  have h1 : (putAt ts (64 + q * 12) l).size = 448 := by rw [putAt_size (by omega)]; exact hs
  refine ⟨h1, ?_, fun i j hi hj => ?_⟩
  · apply Array.ext_getElem?
    intro j
    unfold bkB
    by_cases c : j < 64
    · rw [ext_get (by omega) (by omega), ext_get (by omega) (by omega), putAt_out (by omega) (by omega)]
    · rw [Array.getElem?_eq_none (by rw [ext_size (by omega)]; omega), Array.getElem?_eq_none (by rw [ext_size (by omega)]; omega)]
  · by_cases e : i = q
    · rw [if_pos e, e, putAt_in (by omega) (by omega) (by omega)]
      congr 1
      omega
    · rw [if_neg e, putAt_out (by omega) (by omega)]
end
end Go.Proofs.YtjjeahnbppmigaaDoor
/- Of tables: Set, Drop, New: contracts. No condition. -/
namespace Go.Proofs.YtjjeahnbppmigaaDoor
set_option linter.unusedSectionVars false
variable [Gh]
set_option maxRecDepth 100000
set_option linter.unusedSimpArgs false
set_option linter.unusedVariables false
section
variable {ts : Array Value} {h u : Int}
/-! Set. -/
omit [Gh] in
def rwL (u q : Int) (x : Value) (l c0 c1 c2 c3 c4 c5 c6 c7 : Int) : List Value := [.int .u32 u, .int .i64 q, x, .int .i64 l, .int .u32 c0, .int .u32 c1, .int .u32 c2, .int .u32 c3, .int .u32 c4, .int .u32 c5, .int .u32 c6, .int .u32 c7]
omit [Gh] in
def setP (ts : Array Value) (h q : Int) (x : Value) (l c0 c1 c2 c3 c4 c5 c6 c7 : Int) : Array Value := putAt ts (pl h) (rwL (upR ts h) q x l c0 c1 c2 c3 c4 c5 c6 c7)
omit [Gh] in
def setE (ts : Array Value) (h q : Int) (b : Bool) : Int := if gdF ts h = true then (if 0 ≤ q ∧ q ≤ 64 ∧ b = true then 0 else 2) else 4
omit [Gh] in
def setNl (ts : Array Value) (h q l c0 c1 c2 c3 c4 c5 c6 c7 : Int) : Array Value := if setE ts h q (decide (l = 0)) = 0 then setP ts h q (.slice none 0 0) l c0 c1 c2 c3 c4 c5 c6 c7 else ts
theorem set_sz (hb : TbOk ts) (hg : gdF ts h = true) {q l c0 c1 c2 c3 c4 c5 c6 c7 : Int} {x : Value} : (setP ts h q x l c0 c1 c2 c3 c4 c5 c6 c7).size = 448 := (put_rg hb.sz (good_f hb hg).2.2.1 rfl).1
theorem set_nil (q l c0 c1 c2 c3 c4 c5 c6 c7 : Int) (m : SMem) : Con E0 15 [tbS ts, u32 h, rgV (rgC u q nilC l c0 c1 c2 c3 c4 c5 c6 c7)] m (.need [TbOk ts, inH h] (.ret (rgS (setNl ts h q l c0 c1 c2 c3 c4 c5 c6 c7) (setE ts h q (decide (l = 0)))) m)) := by
  refine Con.asked fun hq => ?_
  have hb : TbOk ts := hq _ (by simp)
  have hh : inH h := hq _ (by simp)
  have hh' : 0 ≤ h ∧ h < 4294967296 := hh
  have hs := hb.sz
  have h64 : (64 : Nat) ≤ 448 := by decide
  have hbk : BkOk (bkB ts) := hb.bk
  have key : Con E0 15 [tbS ts, u32 h, rgV (rgC u q nilC l c0 c1 c2 c3 c4 c5 c6 c7)] m (needs [] (.ret (rgS (setNl ts h q l c0 c1 c2 c3 c4 c5 c6 c7) (setE ts h q (decide (l = 0)))) m)) := by
    refine Con.pure E0_ok (by kernel_rfl : E0.fn 15 = some Tryd.f15) (by kernel_rfl : Tryd.f15.body = some (Tryd.f15.body.getD .skip)) rfl rfl fun _ => ?_
    refine (Good.ret [] (run_vc ET0_ok 1000 (tt0 ts h u q l c0 c1 c2 c3 c4 c5 c6 c7 (setNl ts h q l c0 c1 c2 c3 c4 c5 c6 c7) (setE ts h q (decide (l = 0)))) ?_ (fun s m h => h) fun _ _ h => h.elim)).mono fun _ _ h => h.1
    cases hg : gdF ts h with
    | false =>
      have hg' : goodB (bkB ts) h = false := hg
      have e2 : setE ts h q (decide (l = 0)) = 4 := by unfold setE; rw [hg]; rfl
      have e1 : setNl ts h q l c0 c1 c2 c3 c4 c5 c6 c7 = ts := by unfold setNl; rw [e2]; rfl
      simp only [bk_f, hg', e1, e2, hs, h64, hbk, hh', Bool.not_false, true_implies, Bool.true_eq_false, Bool.false_eq_true, false_implies, and_true, true_and]
    | true =>
      have hg' : goodB (bkB ts) h = true := hg
      obtain ⟨s1, s2, s3, s4, s5, s6, s7⟩ := good_f hb hg
      have es : (slotI h).toNat = sl h := rfl
      have t0 : IsInt .u32 ts (64 + sl h * 12) := (hb.rg _ s3).u
      have no : ¬ (0 ≤ q ∧ q ≤ 64 ∧ decide (l = 0) = true) → setE ts h q (decide (l = 0)) = 2 ∧ setNl ts h q l c0 c1 c2 c3 c4 c5 c6 c7 = ts := fun k => by
        have e2 : setE ts h q (decide (l = 0)) = 2 := by unfold setE; rw [if_pos hg, if_neg k]
        exact ⟨e2, by unfold setNl; rw [e2]; rfl⟩
      cases d1 : decide (q ≥ 0) with
      | false =>
        obtain ⟨e2, e1⟩ := no fun k => of_decide_eq_false d1 k.1
        simp only [bk_f, hg', d1, e1, e2, hs, h64, hbk, hh', beqT, Bool.not_true, Bool.not_false, true_implies, Bool.true_eq_false, Bool.false_eq_true, false_implies, and_true, true_and]
      | true =>
        cases d2 : decide (q ≤ 64) with
        | false =>
          obtain ⟨e2, e1⟩ := no fun k => of_decide_eq_false d2 k.2.1
          simp only [bk_f, hg', d1, d2, e1, e2, hs, h64, hbk, hh', beqT, beqF, Bool.not_true, Bool.not_false, true_implies, Bool.true_eq_false, Bool.false_eq_true, false_implies, and_true, true_and]
        | true =>
          cases d3 : decide (l = 0) with
          | false =>
            obtain ⟨e2, e1⟩ := no fun k => by rw [d3] at k; cases k.2.2
            rw [d3] at e2
            simp only [bk_f, hg', d1, d2, d3, e1, e2, hs, h64, hbk, hh', beqT, beqF, Bool.not_true, Bool.not_false, true_implies, Bool.true_eq_false, Bool.false_eq_true, false_implies, and_true, true_and]
          | true =>
            have e2 : setE ts h q true = 0 := by unfold setE; rw [if_pos hg, if_pos ⟨of_decide_eq_true d1, of_decide_eq_true d2, rfl⟩]
            have e1 : setNl ts h q l c0 c1 c2 c3 c4 c5 c6 c7 = setP ts h q (.slice none 0 0) l c0 c1 c2 c3 c4 c5 c6 c7 := by unfold setNl; rw [d3, e2]; rfl
            have e3 : putAt ts (64 + sl h * 12) [Value.int .u32 (intAt ts (64 + sl h * 12)), Value.int .i64 q, Value.slice none 0 0, Value.int .i64 l, Value.int .u32 c0, Value.int .u32 c1, Value.int .u32 c2, Value.int .u32 c3, Value.int .u32 c4, Value.int .u32 c5, Value.int .u32 c6, Value.int .u32 c7] = setP ts h q (.slice none 0 0) l c0 c1 c2 c3 c4 c5 c6 c7 := rfl
            have p1 : (setP ts h q (.slice none 0 0) l c0 c1 c2 c3 c4 c5 c6 c7).size = 448 := set_sz hb hg
            have y : 64 + sl h * 12 + 12 ≤ 448 := by omega
            simp only [bk_f, hg', d1, d2, d3, e1, e2, e3, es, hs, h64, hbk, hh', s1, s2, t0, p1, y, List.length_cons, List.length_nil, Nat.zero_add, beqT, beqF, Bool.not_true, Bool.not_false, true_implies, Bool.true_eq_false, Bool.false_eq_true, false_implies, and_true, true_and]
  intro A hA
  exact key A hA
omit [Gh] in
noncomputable def setS (ts : Array Value) (h q l c0 c1 c2 c3 c4 c5 c6 c7 : Int) (id n : Nat) : SV := .tup [.agg (.patch (setP ts h q (.slice none 0 0) l c0 c1 c2 c3 c4 c5 c6 c7) (pl h + 2) (.slice id (.l 0) (.o n) (.full 2))), erS 0]
noncomputable def setT (ts : Array Value) (h q l c0 c1 c2 c3 c4 c5 c6 c7 : Int) (cs : Array Value) (off n : Nat) (m : SMem) : Tree := .need [TbOk ts, inH h, PrOk cs off n] (.br (decide (setE ts h q (mayE cs off n l) = 0))
  (.ret (setS ts h q l c0 c1 c2 c3 c4 c5 c6 c7 m.next n) (m.new (.pop (cs.extract off (off + n * 2))) 89)) (.ret (rgS ts (setE ts h q (mayE cs off n l))) m))
omit [Gh] in
theorem setS_move {q l c0 c1 c2 c3 c4 c5 c6 c7 : Int} {n : Nat} : Moves fun id => setS ts h q l c0 c1 c2 c3 c4 c5 c6 c7 id n := by
  intro R R' id id' x v h1 h2 hv
  obtain ⟨vs, rfl, hv⟩ := hv
  refine ⟨vs, rfl, ?_⟩
  generalize vs.toList = T at hv ⊢
  match T, hv with
  | [a, b], hv =>
    obtain ⟨⟨ds, e, ⟨w, k1, k2⟩, k3⟩, hb, _⟩ := hv
    exact ⟨⟨ds, e, ⟨w, slC_move h1 h2 k1, k2⟩, k3⟩, hb, trivial⟩
theorem set_row (q l c0 c1 c2 c3 c4 c5 c6 c7 : Int) {m : SMem} {i off n : Nat} {cap : SK} {cs : Array Value} {ty : TypeId} {wr : Bool} (hi : getB m.bl i = some ⟨.pop cs, ty, wr⟩) :
    Con E0 15 [tbS ts, u32 h, rgV (rgC u q (.f (.slice i (.o off) (.o n) cap)) l c0 c1 c2 c3 c4 c5 c6 c7)] m (setT ts h q l c0 c1 c2 c3 c4 c5 c6 c7 cs off n m) := by
  refine Con.asked fun hq => ?_
  have hb : TbOk ts := hq _ (by simp)
  have hh : inH h := hq _ (by simp)
  have hp : PrOk cs off n := hq _ (by simp)
  have hh' : 0 ≤ h ∧ h < 4294967296 := hh
  have hs := hb.sz
  have h64 : (64 : Nat) ≤ 448 := by decide
  have hbk : BkOk (bkB ts) := hb.bk
  have f1 : E0.fn 15 = some Tryd.f15 := by kernel_rfl
  have f2 : Tryd.f15.body = some (Tryd.f15.body.getD .skip) := by kernel_rfl
  have look : Looks [tbS ts, u32 h, rgV (rgC u q (.f (.slice i (.o off) (.o n) cap)) l c0 c1 c2 c3 c4 c5 c6 c7)] [tbS ts, u32 h, rgV (rgC u q (.f (.slice 0 (.o off) (.o n) .any)) l c0 c1 c2 c3 c4 c5 c6 c7)] m (fun _ => popM cs ty) := Looks.row hi fun R R' vs h0 ha => by
    match vs, ha with
    | [x, y, z], ha =>
      refine ⟨ok_any (s := tbS ts) rfl ha.1, ha.2.1, agg_mid (x := [.f (.int .u32 (.o u)), .f (.int .i64 (.o q))]) (fun v hv => ?_) rfl rfl ha.2.2.1, trivial⟩
      obtain ⟨g, c, e1, e2, e3, e4⟩ := hv
      exact ⟨g, c, h0 g e1, e2, trivial, e4⟩
  have hE : ∀ E : Int, setE ts h q (mayE cs off n l) = E → E ≠ 0 → Good Tryd.prog (seR false ts (pl h + 2) n (cs.extract off (off + n * 2)) E) 1 [callFr 15 Tryd.f15.ntmps [tbS ts, u32 h, rgV (rgC u q (.f (.slice 0 (.o off) (.o n) .any)) l c0 c1 c2 c3 c4 c5 c6 c7)] (Tryd.f15.body.getD .skip)] (popM cs ty) := by
    intro E e2 hE
    refine run_vc ET0_ok 1000 (tt1 ts h u q l c0 c1 c2 c3 c4 c5 c6 c7 0 off n cs ty false ts (pl h + 2) n (cs.extract off (off + n * 2)) E) ?_ (fun s m h => h) fun _ _ h => h.elim
    cases hg : gdF ts h with
    | false =>
      have hg' : goodB (bkB ts) h = false := hg
      have e3 : E = 4 := by rw [← e2]; unfold setE; rw [hg]; rfl
      simp only [bk_f, hg', e3, hs, h64, hbk, hh', Bool.not_false, true_implies, Bool.true_eq_false, Bool.false_eq_true, false_implies, and_true, true_and]
    | true =>
      have hg' : goodB (bkB ts) h = true := hg
      have e3 : ¬ (0 ≤ q ∧ q ≤ 64 ∧ mayE cs off n l = true) := fun k => by unfold setE at e2; rw [if_pos hg, if_pos k] at e2; exact hE e2.symm
      have e4 : E = 2 := by rw [← e2]; unfold setE; rw [if_pos hg, if_neg e3]
      cases d1 : decide (q ≥ 0) with
      | false => simp only [bk_f, hg', d1, e4, hs, h64, hbk, hh', beqT, Bool.not_true, Bool.not_false, true_implies, Bool.true_eq_false, Bool.false_eq_true, false_implies, and_true, true_and]
      | true =>
        cases d2 : decide (q ≤ 64) with
        | false => simp only [bk_f, hg', d1, d2, e4, hs, h64, hbk, hh', beqT, beqF, Bool.not_true, Bool.not_false, true_implies, Bool.true_eq_false, Bool.false_eq_true, false_implies, and_true, true_and]
        | true =>
          cases d3 : mayE cs off n l with
          | false => simp only [bk_f, hg', d1, d2, d3, e4, hp, hs, h64, hbk, hh', beqT, beqF, Bool.not_true, Bool.not_false, true_implies, Bool.true_eq_false, Bool.false_eq_true, false_implies, and_true, true_and]
          | true => exact absurd ⟨of_decide_eq_true d1, of_decide_eq_true d2, d3⟩ e3
  refine Con.two (fun hn => ?_) (fun hn => ?_)
  · have e2 := of_decide_eq_true hn
    have hg : gdF ts h = true := by
      cases hg : gdF ts h with
      | true => rfl
      | false => unfold setE at e2; rw [hg] at e2; cases e2
    have e3 : 0 ≤ q ∧ q ≤ 64 ∧ mayE cs off n l = true := by
      unfold setE at e2
      rw [if_pos hg] at e2
      split at e2
      · assumption
      · cases e2
    have key : Con E0 15 [tbS ts, u32 h, rgV (rgC u q (.f (.slice i (.o off) (.o n) cap)) l c0 c1 c2 c3 c4 c5 c6 c7)] m (needs [] (.ret (setS ts h q l c0 c1 c2 c3 c4 c5 c6 c7 m.next n) (m.new (.pop (cs.extract off (off + n * 2))) 89))) := by
      refine Con.seeS E0_ok (S := fun id => setS ts h q l c0 c1 c2 c3 c4 c5 c6 c7 id n) (m0 := mkM 2 [(1, ⟨.pop (cs.extract off (off + n * 2)), 89, true⟩)]) (k0 := 1) f1 f2 (fun _ => look) rfl setS_move (by kernel_rfl) (fun _ _ => Good.retX ((run_vc ET0_ok 1000 (tt1 ts h u q l c0 c1 c2 c3 c4 c5 c6 c7 0 off n cs ty true (setP ts h q (.slice none 0 0) l c0 c1 c2 c3 c4 c5 c6 c7) (pl h + 2) n (cs.extract off (off + n * 2)) 0) ?_ (fun s m h => h) fun _ _ h => h.elim).mono fun _ _ h => seR_row h))
      have hg' : goodB (bkB ts) h = true := hg
      obtain ⟨s1, s2, s3, s4, s5, s6, s7⟩ := good_f hb hg
      have es : (slotI h).toNat = sl h := rfl
      have t0 : IsInt .u32 ts (64 + sl h * 12) := (hb.rg _ s3).u
      have d1 : decide (q ≥ 0) = true := decide_eq_true e3.1
      have d2 : decide (q ≤ 64) = true := decide_eq_true e3.2.1
      have d3 := e3.2.2
      have e5 : putAt ts (64 + sl h * 12) [Value.int .u32 (intAt ts (64 + sl h * 12)), Value.int .i64 q, Value.slice none 0 0, Value.int .i64 l, Value.int .u32 c0, Value.int .u32 c1, Value.int .u32 c2, Value.int .u32 c3, Value.int .u32 c4, Value.int .u32 c5, Value.int .u32 c6, Value.int .u32 c7] = setP ts h q (.slice none 0 0) l c0 c1 c2 c3 c4 c5 c6 c7 := rfl
      have e6 : pl h + 2 = 64 + sl h * 12 + 2 := rfl
      have p1 : (setP ts h q (.slice none 0 0) l c0 c1 c2 c3 c4 c5 c6 c7).size = 448 := set_sz hb hg
      have y : 64 + sl h * 12 + 12 ≤ 448 := by omega
      simp only [bk_f, hg', d1, d2, d3, e5, e6, es, hp, hs, h64, hbk, hh', s1, s2, t0, p1, y, List.length_cons, List.length_nil, Nat.zero_add, beqT, beqF, Bool.not_true, Bool.not_false, true_implies, Bool.true_eq_false, Bool.false_eq_true, false_implies, and_true, true_and]
    intro A hA
    exact key A hA
  · have key : Con E0 15 [tbS ts, u32 h, rgV (rgC u q (.f (.slice i (.o off) (.o n) cap)) l c0 c1 c2 c3 c4 c5 c6 c7)] m (needs [] (.ret (rgS ts (setE ts h q (mayE cs off n l))) m)) := by
      refine Con.seeV E0_ok (A := fun s m' => s = rgS ts (setE ts h q (mayE cs off n l)) ∧ m' = mkM 1 []) f1 f2 (fun _ => look) (fun _ _ => Good.ret [] ((hE _ rfl (of_decide_eq_false hn)).mono fun _ _ h => seR_no h)) ?_
      rintro s m' R R' v ⟨rfl, _⟩ hv
      exact ok_any (s := rgS ts (setE ts h q (mayE cs off n l))) rfl hv
    intro A hA
    exact key A hA
/-! Drop. -/
omit [Gh] in
def z12 : List Value := (rgA 0 0 0 fun _ => 0).toList
omit [Gh] in
def drT (ts : Array Value) (h : Int) : Array Value := putAt (putAt ts 0 (voidB (bkB ts) h).toList) (pl h) z12
omit [Gh] in
def dropT (ts : Array Value) (h : Int) : Array Value := if gdF ts h = true then drT ts h else ts
theorem dr_size (hb : TbOk ts) (hg : gdF ts h = true) : (drT ts h).size = 448 := by
  have hv := (void_bk hb.bk h).sz
  exact (put_rg (put_bk hb.sz hv).1 (good_f hb hg).2.2.1 rfl).1
theorem drop_con (h : Int) (m : SMem) : Con E0 14 [tbS ts, u32 h] m (needs [TbOk ts, inH h] (.ret (rgS (dropT ts h) (getX5 ts h)) m)) := by
  refine Con.pure E0_ok (by kernel_rfl : E0.fn 14 = some Tryd.f14) (by kernel_rfl : Tryd.f14.body = some (Tryd.f14.body.getD .skip)) (by kernel_rfl) (by kernel_rfl) fun hq => ?_
  have hb : TbOk ts := hq _ (by simp)
  have hh : inH h := hq _ (by simp)
  have hh' : 0 ≤ h ∧ h < 4294967296 := hh
  refine (Good.ret [] (run_vc ET0_ok 1000 (td0 ts h (dropT ts h) (getX5 ts h)) ?_ (fun s m h => h) fun _ _ h => h.elim)).mono fun _ _ h => h.1
  have hs := hb.sz
  have h64 : (64 : Nat) ≤ 448 := by decide
  have hbk : BkOk (bkB ts) := hb.bk
  have hv := (void_bk hb.bk h).sz
  cases hg : gdF ts h with
  | false =>
    have hg' : goodB (bkB ts) h = false := hg
    have e1 : dropT ts h = ts := by unfold dropT; rw [hg]; rfl
    have e2 : getX5 ts h = 4 := by unfold getX5; rw [hg]; rfl
    simp only [bk_f, hg', e1, e2, hs, h64, hbk, hh', hv, Bool.not_false, true_implies, Bool.true_eq_false, Bool.false_eq_true, false_implies, and_true, true_and]
  | true =>
    have hg' : goodB (bkB ts) h = true := hg
    obtain ⟨s1, s2, s3, s4, s5, s6, s7⟩ := good_f hb hg
    have es : (slotI h).toNat = sl h := rfl
    have e1 : dropT ts h = drT ts h := by unfold dropT; rw [hg]; rfl
    have e2 : getX5 ts h = 0 := by unfold getX5; rw [hg]; rfl
    have e3 : putAt (putAt ts 0 (voidB (bkB ts) h).toList) (64 + sl h * 12) [Value.int .u32 0, Value.int .i64 0, Value.slice none 0 0, Value.int .i64 0, Value.int .u32 0, Value.int .u32 0, Value.int .u32 0, Value.int .u32 0, Value.int .u32 0, Value.int .u32 0, Value.int .u32 0, Value.int .u32 0] = drT ts h := rfl
    have p1 := (put_bk (bs := voidB (bkB ts) h) hs hv).1
    have p2 := dr_size hb hg
    have y : 64 + sl h * 12 + 12 ≤ 448 := by omega
    simp only [bk_f, hg', e1, e2, e3, es, hs, h64, hbk, hh', s1, s2, hv, p1, p2, y, Nat.zero_add, Bool.not_true, true_implies, Bool.true_eq_false, Bool.false_eq_true, false_implies, and_true, true_and]
/-! New. -/
omit [Gh] in
def nwT (ts : Array Value) (u q : Int) : Array Value := putAt (putAt ts 0 (issueB (bkB ts)).toList) (pl (issueI (bkB ts))) (rgA u q 0 fun _ => 0).toList
omit [Gh] in
def newE (ts : Array Value) (u q : Int) : Int := if u ≠ 0 ∧ gdF ts u = false then 4 else if 0 ≤ q ∧ q ≤ 64 then (if issueOk (bkB ts) = true then 0 else 7) else 2
omit [Gh] in
def newT (ts : Array Value) (u q : Int) : Array Value := if newE ts u q = 0 then nwT ts u q else ts
omit [Gh] in
def newI (ts : Array Value) (u q : Int) : Int := if newE ts u q = 0 then issueI (bkB ts) else 0
theorem iss_f (hb : TbOk ts) : inH (issueI (bkB ts)) ∧ 0 ≤ slotI (issueI (bkB ts)) ∧ slotI (issueI (bkB ts)) < 32 ∧ sl (issueI (bkB ts)) < 32 := by
  rcases issue_cases (bs := bkB ts) with ⟨_, _, e, _⟩ | ⟨i, h1, _, _, e, _, _⟩
  · rw [e]; exact ⟨⟨by decide, by decide⟩, by decide, by decide, by decide⟩
  · have hr := hb.bk.ra i h1
    have hi : inH (issueI (bkB ts)) := by rw [e]; unfold inH nameI; omega
    have es : sl (issueI (bkB ts)) = i := by rw [e]; exact slotI_name h1 hr
    have := slotI_lt hi
    exact ⟨hi, this.1, by unfold sl at es; omega, by omega⟩
theorem nw_size (hb : TbOk ts) {u q : Int} : (nwT ts u q).size = 448 := by
  exact (put_rg (put_bk hb.sz (issue_bk hb.bk).sz).1 (iss_f hb).2.2.2 rfl).1
theorem new_con (u q : Int) (m : SMem) : Con E0 18 [tbS ts, u32 u, i64 (.o q)] m (needs [TbOk ts, inH u] (.ret (.tup [.agg (.op (newT ts u q)), .c (.f (.int .u32 (.o (newI ts u q)))), .c (.f (.int .i64 (.o (newE ts u q))))]) m)) := by
  refine Con.pure E0_ok (by kernel_rfl : E0.fn 18 = some Tryd.f18) (by kernel_rfl : Tryd.f18.body = some (Tryd.f18.body.getD .skip)) (by kernel_rfl) (by kernel_rfl) fun hq => ?_
  have hb : TbOk ts := hq _ (by simp)
  have hu : inH u := hq _ (by simp)
  have hu' : 0 ≤ u ∧ u < 4294967296 := hu
  refine (Good.ret [] (run_vc ET0_ok 1000 (tn0 ts u q (newT ts u q) (newI ts u q) (newE ts u q)) ?_ (fun s m h => h) fun _ _ h => h.elim)).mono fun _ _ h => h.1
  have hs := hb.sz
  have h64 : (64 : Nat) ≤ 448 := by decide
  have hbk : BkOk (bkB ts) := hb.bk
  have hv := (issue_bk hb.bk).sz
  obtain ⟨i1, i2, i3, i4⟩ := iss_f hb
  have i1' : 0 ≤ issueI (bkB ts) ∧ issueI (bkB ts) < 4294967296 := i1
  have es : (slotI (issueI (bkB ts))).toNat = sl (issueI (bkB ts)) := rfl
  have e3 : putAt (putAt ts 0 (issueB (bkB ts)).toList) (64 + sl (issueI (bkB ts)) * 12) [Value.int .u32 u, Value.int .i64 q, Value.slice none 0 0, Value.int .i64 0, Value.int .u32 0, Value.int .u32 0, Value.int .u32 0, Value.int .u32 0, Value.int .u32 0, Value.int .u32 0, Value.int .u32 0, Value.int .u32 0] = nwT ts u q := rfl
  have p1 := (put_bk (bs := issueB (bkB ts)) hs hv).1
  have p2 := nw_size hb (u := u) (q := q)
  have y : 64 + sl (issueI (bkB ts)) * 12 + 12 ≤ 448 := by omega
  have ne : ∀ E : Int, newE ts u q = E → E ≠ 0 → newT ts u q = ts ∧ newI ts u q = 0 := fun E e hE => by
    have : newE ts u q ≠ 0 := by rw [e]; exact hE
    exact ⟨by unfold newT; rw [if_neg this], by unfold newI; rw [if_neg this]⟩
  have rest : ((u != 0) = true → goodB (bkB ts) u = true) → (decide (q ≥ 0) = true ∧ decide (q ≤ 64) = true → issueOk (bkB ts) = true → newE ts u q = 0) ∧ (decide (q ≥ 0) = true ∧ decide (q ≤ 64) = true → issueOk (bkB ts) = false → newE ts u q = 7) ∧ (decide (q ≥ 0) = false ∨ decide (q ≤ 64) = false → newE ts u q = 2) := by
    intro hgu
    have n1 : ¬ (u ≠ 0 ∧ gdF ts u = false) := by
      rintro ⟨k1, k2⟩
      have := hgu (bne_iff_ne.2 k1)
      rw [show goodB (bkB ts) u = false from k2] at this
      cases this
    refine ⟨fun ⟨k1, k2⟩ k3 => ?_, fun ⟨k1, k2⟩ k3 => ?_, fun k => ?_⟩
    · unfold newE; rw [if_neg n1, if_pos ⟨of_decide_eq_true k1, of_decide_eq_true k2⟩, if_pos k3]
    · unfold newE; rw [if_neg n1, if_pos ⟨of_decide_eq_true k1, of_decide_eq_true k2⟩, if_neg (by rw [k3]; simp)]
    · unfold newE; rw [if_neg n1, if_neg]
      rintro ⟨k1, k2⟩
      rcases k with k | k
      · exact of_decide_eq_false k k1
      · exact of_decide_eq_false k k2
  cases hu0 : (u != 0) <;> cases hg : goodB (bkB ts) u <;> cases c1 : decide (q ≥ 0) <;> cases c2 : decide (q ≤ 64) <;> cases c3 : issueOk (bkB ts)
  all_goals
    first
      | (have e : newE ts u q = 4 := by unfold newE; rw [if_pos ⟨bne_iff_ne.1 hu0, hg⟩]
         obtain ⟨e4, e5⟩ := ne 4 e (by decide)
         simp only [bk_f, hg, hu0, c1, c2, c3, e, e4, e5, e3, es, hs, h64, hbk, hu', hv, beqT, beqF, Bool.not_true, Bool.not_false, true_implies, Bool.true_eq_false, Bool.false_eq_true, false_implies, and_true, true_and]
         done)
      | (have e : newE ts u q = 7 := (rest (fun k => by first | exact hg | (rw [hu0] at k; cases k))).2.1 ⟨c1, c2⟩ c3
         obtain ⟨e4, e5⟩ := ne 7 e (by decide)
         simp only [bk_f, hg, hu0, c1, c2, c3, e, e4, e5, e3, es, hs, h64, hbk, hu', hv, beqT, beqF, Bool.not_true, Bool.not_false, true_implies, Bool.true_eq_false, Bool.false_eq_true, false_implies, and_true, true_and]
         done)
      | (have e : newE ts u q = 2 := (rest (fun k => by first | exact hg | (rw [hu0] at k; cases k))).2.2 (by first | exact .inl c1 | exact .inr c2)
         obtain ⟨e4, e5⟩ := ne 2 e (by decide)
         simp only [bk_f, hg, hu0, c1, c2, c3, e, e4, e5, e3, es, hs, h64, hbk, hu', hv, beqT, beqF, Bool.not_true, Bool.not_false, true_implies, Bool.true_eq_false, Bool.false_eq_true, false_implies, and_true, true_and]
         done)
      | (have e : newE ts u q = 0 := (rest (fun k => by first | exact hg | (rw [hu0] at k; cases k))).1 ⟨c1, c2⟩ c3
         have e4 : newT ts u q = nwT ts u q := by unfold newT; rw [if_pos e]
         have e5 : newI ts u q = issueI (bkB ts) := by unfold newI; rw [if_pos e]
         simp only [bk_f, hg, hu0, c1, c2, c3, e, e4, e5, e3, es, hs, h64, hbk, hu', i1', i2, i3, hv, p1, p2, y, List.length_cons, List.length_nil, Nat.zero_add, beqT, beqF, Bool.not_true, Bool.not_false, true_implies, Bool.true_eq_false, Bool.false_eq_true, false_implies, and_true, true_and]
         done)
end
end Go.Proofs.YtjjeahnbppmigaaDoor
/- Of forests: ways upwards, what is under one: of any row of handles and what is above each. No condition. -/
namespace Go.Proofs.YtjjeahnbppmigaaDoor
set_option linter.unusedVariables false
def chF (up : Int → Int) : Nat → Int → List Int
  | 0, _ => []
  | n + 1, x => if x = 0 then [] else x :: chF up n (up x)
structure FoOk (L : List Int) (up : Int → Int) : Prop where
  nd : L.Nodup
  nz : ∀ x ∈ L, x ≠ 0
  cl : ∀ x ∈ L, up x = 0 ∨ up x ∈ L
  dp : ∀ x ∈ L, (chF up 34 x).length ≤ 33
def chL (up : Int → Int) (x : Int) : List Int := chF up 34 x
def depL (up : Int → Int) (x : Int) : Nat := (chL up x).length
section
variable {L : List Int} {up : Int → Int}
theorem chF_zero (n : Nat) : chF up n 0 = [] := by
  cases n with
  | zero => rfl
  | succ n => show (if (0 : Int) = 0 then _ else _) = _; rw [if_pos rfl]
theorem chF_succ {n : Nat} {x : Int} (hx : x ≠ 0) : chF up (n + 1) x = x :: chF up n (up x) := by
  show (if x = 0 then _ else _) = _
  rw [if_neg hx]
theorem chF_le : ∀ (n : Nat) (x : Int), (chF up n x).length ≤ n
  | 0, _ => Nat.le_refl _
  | n + 1, x => by
    by_cases hx : x = 0
    · rw [hx, chF_zero]; exact Nat.zero_le _
    · rw [chF_succ hx, List.length_cons]
      have := chF_le n (up x)
      omega
theorem chF_fix : ∀ (n m : Nat) (x : Int), (chF up n x).length < n → n ≤ m → chF up m x = chF up n x
  | 0, _, _, h, _ => by omega
  | n + 1, 0, _, _, h => by omega
  | n + 1, m + 1, x, h, hm => by
    by_cases hx : x = 0
    · rw [hx, chF_zero, chF_zero]
    · rw [chF_succ hx] at h ⊢
      rw [chF_succ hx]
      rw [List.length_cons] at h
      rw [chF_fix n m (up x) (by omega) (by omega)]
theorem ch_zero : chL up 0 = [] := chF_zero 34
theorem dep_zero : depL up 0 = 0 := by unfold depL; rw [ch_zero]; rfl
theorem ch_cons (h : FoOk L up) {x : Int} (hx : x ∈ L) : chL up x = x :: chL up (up x) := by
  have hd := h.dp x hx
  have h0 := h.nz x hx
  unfold chL
  rw [chF_succ h0] at hd ⊢
  rw [List.length_cons] at hd
  rw [chF_fix 33 34 (up x) (by omega) (by omega)]
theorem dep_cons (h : FoOk L up) {x : Int} (hx : x ∈ L) : depL up x = depL up (up x) + 1 := by unfold depL; rw [ch_cons h hx]; rfl
theorem dep_le (h : FoOk L up) {x : Int} (hx : x ∈ L) : 1 ≤ depL up x ∧ depL up x ≤ 33 := by
  have := dep_cons h hx
  have := h.dp x hx
  exact ⟨by omega, this⟩
theorem up_ind (h : FoOk L up) {P : Int → Prop} (h0 : P 0) (h1 : ∀ x ∈ L, P (up x) → P x) : ∀ x, x = 0 ∨ x ∈ L → P x := by
  have key : ∀ (n : Nat) (x : Int), depL up x ≤ n → x = 0 ∨ x ∈ L → P x := by
    intro n
    induction n with
    | zero =>
      intro x hd hx
      rcases hx with rfl | hx
      · exact h0
      · have := (dep_le h hx).1; omega
    | succ n ih =>
      intro x hd hx
      rcases hx with rfl | hx
      · exact h0
      · refine h1 x hx (ih (up x) ?_ (h.cl x hx))
        have := dep_cons h hx
        omega
  exact fun x hx => key _ x (Nat.le_refl _) hx
theorem ch_sub (h : FoOk L up) : ∀ x, x = 0 ∨ x ∈ L → ∀ y ∈ chL up x, y ∈ L := by
  refine up_ind h (fun y hy => by rw [ch_zero] at hy; cases hy) fun x hx ih y hy => ?_
  rw [ch_cons h hx] at hy
  rcases List.mem_cons.1 hy with rfl | hy
  · exact hx
  · exact ih y hy
theorem ch_self (h : FoOk L up) {x : Int} (hx : x ∈ L) : x ∈ chL up x := by rw [ch_cons h hx]; exact List.mem_cons_self ..
theorem ch_up (h : FoOk L up) {y : Int} : ∀ x, x = 0 ∨ x ∈ L → y ∈ chL up x → up y ≠ 0 → up y ∈ chL up x := by
  refine up_ind h (fun hy => by rw [ch_zero] at hy; cases hy) fun x hx ih hy hn => ?_
  rw [ch_cons h hx] at hy ⊢
  rcases List.mem_cons.1 hy with rfl | hy
  · have : up y ∈ L := (h.cl y hx).resolve_left hn
    exact List.mem_cons_of_mem _ (ch_self h this)
  · exact List.mem_cons_of_mem _ (ih hy hn)
theorem ch_trans (h : FoOk L up) {z : Int} : ∀ y, y = 0 ∨ y ∈ L → ∀ {x}, x = 0 ∨ x ∈ L → y ∈ chL up x → z ∈ chL up y → z ∈ chL up x := by
  refine up_ind h (fun _ _ hz => by rw [ch_zero] at hz; cases hz) fun y hy ih x hx hyx hz => ?_
  rw [ch_cons h hy] at hz
  rcases List.mem_cons.1 hz with rfl | hz
  · exact hyx
  · by_cases h0 : up y = 0
    · rw [h0, ch_zero] at hz; cases hz
    · exact ih hx (ch_up h x hx hyx h0) hz
theorem ch_dep (h : FoOk L up) {y : Int} : ∀ x, x = 0 ∨ x ∈ L → y ∈ chL up x → depL up y ≤ depL up x ∧ (depL up y = depL up x → y = x) := by
  refine up_ind h (fun hy => by rw [ch_zero] at hy; cases hy) fun x hx ih hy => ?_
  rw [ch_cons h hx] at hy
  have hd := dep_cons h hx
  rcases List.mem_cons.1 hy with rfl | hy
  · exact ⟨Nat.le_refl _, fun _ => rfl⟩
  · have := (ih hy).1
    exact ⟨by omega, fun e => by omega⟩
theorem ch_inj (h : FoOk L up) {a b : Int} : ∀ x, x = 0 ∨ x ∈ L → a ∈ chL up x → b ∈ chL up x → depL up a = depL up b → a = b := by
  refine up_ind h (fun ha => by rw [ch_zero] at ha; cases ha) fun x hx ih ha hb e => ?_
  have da := ch_dep h x (.inr hx) ha
  have db := ch_dep h x (.inr hx) hb
  rw [ch_cons h hx] at ha hb
  rcases List.mem_cons.1 ha with rfl | ha
  · exact (db.2 e.symm).symm
  · rcases List.mem_cons.1 hb with rfl | hb
    · exact da.2 e
    · exact ih ha hb e
theorem ch_nodup (h : FoOk L up) : ∀ x, x = 0 ∨ x ∈ L → (chL up x).Nodup := by
  refine up_ind h (by rw [ch_zero]; exact List.nodup_nil) fun x hx ih => ?_
  rw [ch_cons h hx, List.nodup_cons]
  refine ⟨fun hm => ?_, ih⟩
  have := (ch_dep h (up x) (h.cl x hx) hm).1
  have := dep_cons h hx
  omega
/-! What is under one. -/
theorem nodup_le : ∀ {l m : List Int}, l.Nodup → (∀ x ∈ l, x ∈ m) → l.length ≤ m.length
  | [], _, _, _ => Nat.zero_le _
  | a :: l, m, hn, hs => by
    obtain ⟨h1, h2⟩ := List.nodup_cons.1 hn
    have ha := hs a (List.mem_cons_self ..)
    have := nodup_le (m := m.erase a) h2 fun x hx => (List.mem_erase_of_ne (fun e => h1 (by rw [← e]; exact hx))).2 (hs x (List.mem_cons_of_mem _ hx))
    rw [List.length_erase_of_mem ha] at this
    have hp := List.length_pos_of_mem ha
    rw [List.length_cons]
    omega
theorem rank_ch {rank : Int → Nat} (hr : ∀ x ∈ L, up x ≠ 0 → up x ∈ L ∧ rank (up x) < rank x) : ∀ (n : Nat) (x : Int), x ∈ L → (chF up n x).Nodup ∧ ∀ y ∈ chF up n x, y ∈ L ∧ rank y ≤ rank x
  | 0, _, _ => ⟨List.nodup_nil, fun _ h => (by cases h)⟩
  | n + 1, x, hx => by
    by_cases h0 : x = 0
    · rw [h0, chF_zero]; exact ⟨List.nodup_nil, fun _ h => (by cases h)⟩
    · rw [chF_succ h0]
      by_cases hu : up x = 0
      · rw [hu, chF_zero]
        exact ⟨by simp, fun y hy => by
          have : y = x := by simpa using hy
          rw [this]; exact ⟨hx, Nat.le_refl _⟩⟩
      · obtain ⟨k1, k2⟩ := hr x hx hu
        obtain ⟨k3, k4⟩ := rank_ch hr n (up x) k1
        refine ⟨List.nodup_cons.2 ⟨fun hm => ?_, k3⟩, fun y hy => ?_⟩
        · have := (k4 x hm).2; omega
        · rcases List.mem_cons.1 hy with rfl | hy
          · exact ⟨hx, Nat.le_refl _⟩
          · have := k4 y hy; exact ⟨this.1, by omega⟩
theorem fo_rank {rank : Int → Nat} (nd : L.Nodup) (nz : ∀ x ∈ L, x ≠ 0) (hl : L.length ≤ 32) (hr : ∀ x ∈ L, up x ≠ 0 → up x ∈ L ∧ rank (up x) < rank x) : FoOk L up :=
  ⟨nd, nz, fun x hx => by
    by_cases h : up x = 0
    · exact .inl h
    · exact .inr (hr x hx h).1, fun x hx => by
    obtain ⟨k1, k2⟩ := rank_ch hr 34 x hx
    have := nodup_le k1 fun y hy => (k2 y hy).1
    omega⟩
theorem rank_fo (h : FoOk L up) : ∀ x ∈ L, up x ≠ 0 → up x ∈ L ∧ depL up (up x) < depL up x := fun x hx hu => ⟨(h.cl x hx).resolve_left hu, by
  have := dep_cons h hx
  omega⟩
theorem ch_len (h : FoOk L up) (hl : L.length ≤ 32) : ∀ x, x = 0 ∨ x ∈ L → depL up x ≤ 32 := fun x hx => by
  have := nodup_le (ch_nodup h x hx) (ch_sub h x hx)
  unfold depL
  omega
end
end Go.Proofs.YtjjeahnbppmigaaDoor
/- Of tables: Raise: the loop upwards: states. No condition. -/
namespace Go.Proofs.YtjjeahnbppmigaaDoor
set_option linter.unusedSectionVars false
variable [Gh]
set_option linter.unusedVariables false
noncomputable def conTg (g : FuncId) (l : List SV) (m : SMem) : Option Tree := match g, l with
  | 10, [.s (.agg (.op ts)), .s (.c (.f (.int .u32 h)))] => some (getT ts h.den m)
  | 15, [.s (.agg (.op ts)), .s (.c (.f (.int .u32 h))), .s (.agg (.ls [.f (.int .u32 _), .f (.int .i64 q), .f (.lit (.slice none 0 0)), .f (.int .i64 l), .f (.int .u32 c0), .f (.int .u32 c1), .f (.int .u32 c2), .f (.int .u32 c3), .f (.int .u32 c4), .f (.int .u32 c5), .f (.int .u32 c6), .f (.int .u32 c7)]))] => some (.need [TbOk ts, inH h.den] (.ret (rgS (setNl ts h.den q.den l.den c0.den c1.den c2.den c3.den c4.den c5.den c6.den c7.den) (setE ts h.den q.den (decide (l.den = 0)))) m))
  | 15, [.s (.agg (.op ts)), .s (.c (.f (.int .u32 h))), .s (.agg (.ls [.f (.int .u32 _), .f (.int .i64 q), .f (.slice i off n _), .f (.int .i64 l), .f (.int .u32 c0), .f (.int .u32 c1), .f (.int .u32 c2), .f (.int .u32 c3), .f (.int .u32 c4), .f (.int .u32 c5), .f (.int .u32 c6), .f (.int .u32 c7)]))] => (match getB m.bl i with | some ⟨.pop cs, _, _⟩ => some (setT ts h.den q.den l.den c0.den c1.den c2.den c3.den c4.den c5.den c6.den c7.den cs off.den n.den m) | _ => none)
  | 16, [.s (.agg (.ls [.f (.int .i64 u), .f (.int .i64 q), .f (.opq v), .f (.int .i64 l), .f (.int .i64 c0), .f (.int .i64 c1), .f (.int .i64 c2), .f (.int .i64 c3), .f (.int .i64 c4), .f (.int .i64 c5), .f (.int .i64 c6), .f (.int .i64 c7)]))] => some (rgnV u.den q.den v l.den c0.den c1.den c2.den c3.den c4.den c5.den c6.den c7.den m)
  | 14, [.s (.agg (.op ts)), .s (.c (.f (.int .u32 h)))] => some (.need [TbOk ts, inH h.den] (.ret (rgS (dropT ts h.den) (getX5 ts h.den)) m))
  | 18, [.s (.agg (.op ts)), .s (.c (.f (.int .u32 u))), .s (.c (.f (.int .i64 q)))] => some (.need [TbOk ts, inH u.den] (.ret (.tup [.agg (.op (newT ts u.den q.den)), .c (.f (.int .u32 (.o (newI ts u.den q.den)))), .c (.f (.int .i64 (.o (newE ts u.den q.den))))]) m))
  | g, l => conT0 g l m
noncomputable def ERa : Env := ⟨Tryd.prog, fnOf, conTg, haltAt [17 * 1000 + 4]⟩
omit [Gh] in
noncomputable def u32o (h : Int) : SV := .s (.c (.f (.int .u32 (.o h))))
omit [Gh] in
noncomputable def rA_d0 : List SIt := sekF Tryd.f17 4
omit [Gh] in
noncomputable def rA_F (ts : Array Value) (h : Int) (up : Int) (x : Int) (zz : Array Value) : List SFr := [frOf 17 Tryd.f17 [(1, .s (.c (.f (.int .u32 (.o h))))), (2, .s (.c (.f (.int .u32 (.o up))))), (3, ptr 0 (.l 0)), (6, ptr 1 (.l 0)), (8, .s (.c (.f (.int .u32 (.o x)))))] rA_d0]
omit [Gh] in
noncomputable def rA_M (ts : Array Value) (h : Int) (up : Int) (x : Int) (zz : Array Value) : SMem := mkM 2 [(0, ⟨.op ts, 41, true⟩), (1, ⟨.op zz, 41, true⟩)]
omit [Gh] in
noncomputable def rA_n (ts : Array Value) (h : Int) (up : Int) (Q : Int → Array Value → Prop) (fs : List SFr) (m : SMem) : Prop := (match frNth fs 0 with | some f0 => (match rdI f0 8 with | some x => (match rdP f0 3 with | some p0 => (match rdP f0 6 with | some p1 => (match rdA m p1 with | some zz => Q x zz ∧ subOk 0 [(0, p0), (1, p1)] (rA_F ts h up x zz) (rA_M ts h up x zz) fs m | none => False) | none => False) | none => False) | none => False) | none => False)
noncomputable def ra1_t (ts : Array Value) (h : Int) (up : Int) (x : Int) (zz : Array Value) : Tree := stepT ERa.go (run ERa 1000) 0 (rA_F ts h up x zz) (rA_M ts h up x zz)
omit [Gh] in
noncomputable def ra1_x (ts : Array Value) (h : Int) (up : Int) (x : Int) (zz : Array Value) (QrA : Int → Array Value → Prop) (fs : List SFr) (m : SMem) : Prop := rA_n ts h up QrA fs m
noncomputable def ra0_t (ts : Array Value) (h : Int) (up : Int) : Tree := run ERa 1000 0 [callFr 17 Tryd.f17.ntmps [tbS ts, u32 h, u32 up] (Tryd.f17.body.getD .skip)] e0M
omit [Gh] in
noncomputable def ra0_x (ts : Array Value) (h : Int) (up : Int) (QrA : Int → Array Value → Prop) (fs : List SFr) (m : SMem) : Prop := rA_n ts h up QrA fs m
omit [Gh] in
theorem rA_d0_ok (r : Nat → Option Nat) : TodoOk r rA_d0 rA_d0 := TodoOk.it (by kernel_rfl)
theorem rA_good {A : SV → SMem → Prop} {ts : Array Value} {h : Int} {up : Int} {Q : Int → Array Value → Prop} {fs : List SFr} {m : SMem} (H : ∀ x zz, Q x zz → Good Tryd.prog A 0 (rA_F ts h up x zz) (rA_M ts h up x zz)) (hb : rA_n ts h up Q fs m) : Good Tryd.prog A 0 fs m := by
  unfold rA_n at hb
  split at hb
  rotate_left
  · exact hb.elim
  split at hb
  rotate_left
  · exact hb.elim
  split at hb
  rotate_left
  · exact hb.elim
  split at hb
  rotate_left
  · exact hb.elim
  split at hb
  rotate_left
  · exact hb.elim
  exact Good.of_sub hb.2 (H _ _ hb.1)
theorem ra1_go {A : SV → SMem → Prop} {ts : Array Value} {h : Int} {up : Int} {x : Int} {zz : Array Value} {QrA : Int → Array Value → Prop} {fs : List SFr} {m : SMem} (hrA : ∀ x' zz', QrA x' zz' → Good Tryd.prog A 0 (rA_F ts h up x' zz') (rA_M ts h up x' zz')) (hb : ra1_x ts h up x zz QrA fs m) : Good Tryd.prog A 0 fs m := by
  unfold ra1_x at hb
  exact rA_good hrA hb
theorem ra0_go {A : SV → SMem → Prop} {ts : Array Value} {h : Int} {up : Int} {QrA : Int → Array Value → Prop} {fs : List SFr} {m : SMem} (hrA : ∀ x' zz', QrA x' zz' → Good Tryd.prog A 0 (rA_F ts h up x' zz') (rA_M ts h up x' zz')) (hb : ra0_x ts h up QrA fs m) : Good Tryd.prog A 0 fs m := by
  unfold ra0_x at hb
  exact rA_good hrA hb
end Go.Proofs.YtjjeahnbppmigaaDoor
/- Of tables: Raise: the loop upwards: states. -/
namespace Go.Proofs.YtjjeahnbppmigaaDoor
set_option linter.unusedSectionVars false
variable [Gh]
set_option maxRecDepth 100000
theorem raF0 (ts : Array Value) (h up : Int) (o : Array Value) (e : Int) (Q : Int → Array Value → Prop) : (ra0_t ts h up).vc (retOk 0 [] (rgS o e) e0M) (ra0_x ts h up Q) =
    ((64 ≤ Array.size ts ∧ True) ∧ (BkOk (Array.extract ts (0 : Nat) (64)) ∧ ((0 : Int) ≤ h ∧ h < (4294967296 : Int)) ∧ True) ∧ (((!goodB (Array.extract ts (0 : Nat) (64)) h) == false) = true → (((up != (0 : Int)) == true) = true → (64 ≤ Array.size ts ∧ True) ∧ (BkOk (Array.extract ts (0 : Nat) (64)) ∧ ((0 : Int) ≤ up ∧ up < (4294967296 : Int)) ∧ True) ∧ ((!goodB (Array.extract ts (0 : Nat) (64)) up) = true → (Array.size ts = (448 : Nat) ∧ True) ∧ (Array.size ts = (448 : Nat) ∧ Array.size ts = (448 : Nat) ∧ True) ∧ (Array.size ts = (448 : Nat) ∧ True) ∧ o = ts ∧ e = (4 : Int) ∧ True) ∧ ((!goodB (Array.extract ts (0 : Nat) (64)) up) = false → Q up zT ∧ CallKind.normal = CallKind.normal ∧ TodoOk (ren 0 [(0, 0), (1, 1)]) rA_d0 rA_d0 ∧ h = h ∧ up = up ∧ up = up ∧ (41 : TypeId) = (41 : Nat) ∧ ts = ts ∧ (41 : TypeId) = (41 : Nat) ∧ zT = zT ∧ True)) ∧ (((up != (0 : Int)) == true) = false → Q up zT ∧ CallKind.normal = CallKind.normal ∧ TodoOk (ren 0 [(0, 0), (1, 1)]) rA_d0 rA_d0 ∧ h = h ∧ up = up ∧ up = up ∧ (41 : TypeId) = (41 : Nat) ∧ ts = ts ∧ (41 : TypeId) = (41 : Nat) ∧ zT = zT ∧ True)) ∧ (((!goodB (Array.extract ts (0 : Nat) (64)) h) == false) = false → (Array.size ts = (448 : Nat) ∧ True) ∧ (Array.size ts = (448 : Nat) ∧ Array.size ts = (448 : Nat) ∧ True) ∧ (Array.size ts = (448 : Nat) ∧ True) ∧ o = ts ∧ e = (4 : Int) ∧ True)) := by kernel_rfl
theorem raF (ts : Array Value) (h up x : Int) (zz o : Array Value) (e : Int) (Q : Int → Array Value → Prop) : (ra1_t ts h up x zz).vc (retOk 0 [] (rgS o e) e0M) (ra1_x ts h up x zz Q) =
    (((x != (0 : Int)) = true → ((x == h) = true → (Array.size ts = (448 : Nat) ∧ True) ∧ (Array.size ts = (448 : Nat) ∧ Array.size ts = Array.size zz ∧ True) ∧ (Array.size ts = (448 : Nat) ∧ True) ∧ o = ts ∧ e = (12 : Int) ∧ True) ∧ ((x == h) = false → (((0 : Int) ≤ x ∧ x < (4294967296 : Int)) ∧ True) ∧ (((0 : Int) ≤ slotI x ∧ slotI x < (32 : Int)) ∧ True) ∧ (IsInt IntKind.u32 ts ((64 : Nat) + Int.toNat (slotI x) * 12) ∧ True) ∧ (64 ≤ Array.size ts ∧ True) ∧ (BkOk (Array.extract ts (0 : Nat) (64)) ∧ ((0 : Int) ≤ intAt ts ((64 : Nat) + Int.toNat (slotI x) * 12) ∧ intAt ts ((64 : Nat) + Int.toNat (slotI x) * 12) < (4294967296 : Int)) ∧ True) ∧ (goodB (Array.extract ts (0 : Nat) (64)) (intAt ts ((64 : Nat) + Int.toNat (slotI x) * 12)) = true → Q (intAt ts ((64 : Nat) + Int.toNat (slotI x) * 12)) zz ∧ CallKind.normal = CallKind.normal ∧ TodoOk (ren 0 [(0, 0), (1, 1)]) rA_d0 rA_d0 ∧ h = h ∧ up = up ∧ intAt ts ((64 : Nat) + Int.toNat (slotI x) * 12) = intAt ts ((64 : Nat) + Int.toNat (slotI x) * 12) ∧ (41 : TypeId) = (41 : TypeId) ∧ ts = ts ∧ (41 : TypeId) = (41 : TypeId) ∧ zz = zz ∧ True) ∧ (goodB (Array.extract ts (0 : Nat) (64)) (intAt ts ((64 : Nat) + Int.toNat (slotI x) * 12)) = false → Q (0 : Int) zz ∧ CallKind.normal = CallKind.normal ∧ TodoOk (ren 0 [(0, 0), (1, 1)]) rA_d0 rA_d0 ∧ h = h ∧ up = up ∧ (0 : Int) = (0 : Int) ∧ (41 : TypeId) = (41 : TypeId) ∧ ts = ts ∧ (41 : TypeId) = (41 : TypeId) ∧ zz = zz ∧ True))) ∧ ((x != (0 : Int)) = false → (((0 : Int) ≤ h ∧ h < (4294967296 : Int)) ∧ True) ∧ (((0 : Int) ≤ slotI h ∧ slotI h < (32 : Int)) ∧ True) ∧ ((64 : Nat) + Int.toNat (slotI h) * 12 < Array.size ts ∧ True) ∧ (Array.size (Array.setIfInBounds ts ((64 : Nat) + Int.toNat (slotI h) * 12) (Value.int IntKind.u32 up)) = (448 : Nat) ∧ True) ∧ (Array.size (Array.setIfInBounds ts ((64 : Nat) + Int.toNat (slotI h) * 12) (Value.int IntKind.u32 up)) = (448 : Nat) ∧ Array.size (Array.setIfInBounds ts ((64 : Nat) + Int.toNat (slotI h) * 12) (Value.int IntKind.u32 up)) = Array.size zz ∧ True) ∧ (Array.size (Array.setIfInBounds ts ((64 : Nat) + Int.toNat (slotI h) * 12) (Value.int IntKind.u32 up)) = (448 : Nat) ∧ True) ∧ o = Array.setIfInBounds ts ((64 : Nat) + Int.toNat (slotI h) * 12) (Value.int IntKind.u32 up) ∧ e = (0 : Int) ∧ True)) := by kernel_rfl
end Go.Proofs.YtjjeahnbppmigaaDoor
/- Of tables: Raise: its contract; all contracts. No condition. -/
namespace Go.Proofs.YtjjeahnbppmigaaDoor
set_option linter.unusedSectionVars false
variable [Gh]
set_option maxRecDepth 100000
set_option linter.unusedSimpArgs false
set_option linter.unusedVariables false
omit [Gh] in
theorem all2_den {R : Ren} {k : IntKind} {n : SI} {v : Value} (h : (SC.f (.int k n)).ok R v) : (SC.f (.int k (.o n.den))).ok R v := h
theorem conTg_ok : ∀ g l m t, conTg g l m = some t → Con E0 g l m t := by
  intro g l m t h
  unfold conTg at h
  split at h
  · rename_i ts x; cases h
    refine Con.args (l' := [tbS ts, u32 x.den]) (fun R vs ha => by
      match vs, ha with
      | [v, w], ha => exact ⟨ha.1, ha.2.1, trivial⟩) (get_con x.den m)
  · rename_i ts x u q l c0 c1 c2 c3 c4 c5 c6 c7; cases h
    refine Con.args (l' := [tbS ts, u32 x.den, rgV (rgC u.den q.den nilC l.den c0.den c1.den c2.den c3.den c4.den c5.den c6.den c7.den)]) (fun R vs ha => ?_) (set_nil q.den l.den c0.den c1.den c2.den c3.den c4.den c5.den c6.den c7.den m)
    match vs, ha with
    | [v, w, z], ha =>
      obtain ⟨k1, k2, ⟨ds, e, hd⟩, _⟩ := ha
      refine ⟨k1, k2, ⟨ds, e, ?_⟩, trivial⟩
      change All2 (SC.ok R) _ ds.toList at hd
      show All2 (SC.ok R) _ ds.toList
      generalize ds.toList = T at hd ⊢
      match T, hd with
      | [_, _, _, _, _, _, _, _, _, _, _, _], hd => exact hd
  · rename_i ts x u q i off n cap l c0 c1 c2 c3 c4 c5 c6 c7
    split at h
    · rename_i hi; cases h
      refine Con.args (l' := [tbS ts, u32 x.den, rgV (rgC u.den q.den (.f (.slice i (.o off.den) (.o n.den) cap)) l.den c0.den c1.den c2.den c3.den c4.den c5.den c6.den c7.den)]) (fun R vs ha => ?_) (set_row q.den l.den c0.den c1.den c2.den c3.den c4.den c5.den c6.den c7.den hi)
      match vs, ha with
      | [v, w, z], ha =>
        obtain ⟨k1, k2, ⟨ds, e, hd⟩, _⟩ := ha
        refine ⟨k1, k2, ⟨ds, e, ?_⟩, trivial⟩
        change All2 (SC.ok R) _ ds.toList at hd
        show All2 (SC.ok R) _ ds.toList
        generalize ds.toList = T at hd ⊢
        match T, hd with
        | [_, _, _, _, _, _, _, _, _, _, _, _], hd => exact hd
    · cases h
  · rename_i u q v l c0 c1 c2 c3 c4 c5 c6 c7; cases h
    refine Con.args (l' := [rgV (rgD u.den q.den (opC v) l.den c0.den c1.den c2.den c3.den c4.den c5.den c6.den c7.den)]) (fun R vs ha => ?_) (region_con u.den q.den v l.den c0.den c1.den c2.den c3.den c4.den c5.den c6.den c7.den m)
    match vs, ha with
    | [z], ha =>
      obtain ⟨⟨ds, e, hd⟩, _⟩ := ha
      refine ⟨⟨ds, e, ?_⟩, trivial⟩
      change All2 (SC.ok R) _ ds.toList at hd
      show All2 (SC.ok R) _ ds.toList
      generalize ds.toList = T at hd ⊢
      match T, hd with
      | [_, _, _, _, _, _, _, _, _, _, _, _], hd => exact hd
  · rename_i ts x; cases h
    refine Con.asked fun hq => Con.args (l' := [tbS ts, u32 x.den]) (fun R vs ha => by
      match vs, ha with
      | [v, w], ha => exact ⟨ha.1, ha.2.1, trivial⟩) ?_
    intro A hs
    exact drop_con x.den m A ⟨fun p hp => hq p hp, hs⟩
  · rename_i ts x q; cases h
    refine Con.asked fun hq => Con.args (l' := [tbS ts, u32 x.den, i64 (.o q.den)]) (fun R vs ha => by
      match vs, ha with
      | [v, w, z], ha => exact ⟨ha.1, ha.2.1, ha.2.2.1, trivial⟩) ?_
    intro A hs
    exact new_con x.den q.den m A ⟨fun p hp => hq p hp, hs⟩
  · exact conT0_ok _ _ _ _ h
theorem ERa_ok : EnvOk ERa := EnvOk.with E0_ok _ _ conTg_ok
section
variable {ts : Array Value} {h : Int}
/-! Tables that are forests. -/
omit [Gh] in
def lvT (ts : Array Value) : List Int := issued (bkB ts)
structure FIn (ts : Array Value) : Prop where
  ok : TbOk ts
  fo : FoOk (lvT ts) (upF ts)
theorem lv_mem (hb : TbOk ts) {x : Int} : x ∈ lvT ts ↔ gdF ts x = true := issued_mem hb.bk
theorem lv_in (hb : TbOk ts) {x : Int} (hx : x = 0 ∨ x ∈ lvT ts) : inH x := by
  rcases hx with rfl | hx
  · exact ⟨by decide, by decide⟩
  · exact (goodB_in hb.bk ((lv_mem hb).1 hx)).1
/-! Raise. -/
omit [Gh] in
def raE (ts : Array Value) (h up : Int) : Int := if gdF ts h = false ∨ (up ≠ 0 ∧ gdF ts up = false) then 4 else if h ∈ chL (upF ts) up then 12 else 0
omit [Gh] in
def raS (ts : Array Value) (h up : Int) : Array Value := ts.setIfInBounds (pl h) (.int .u32 up)
omit [Gh] in
def raT (ts : Array Value) (h up : Int) : Array Value := if raE ts h up = 0 then raS ts h up else ts
theorem rA_ok (hf : FIn ts) {h up : Int} (hh : gdF ts h = true) (hu : up = 0 ∨ gdF ts up = true) {zz : Array Value} (hz : zz.size = 448) : ∀ x, x = 0 ∨ x ∈ lvT ts → (h ∈ chL (upF ts) x ↔ h ∈ chL (upF ts) up) → Good Tryd.prog (retOk 0 [] (rgS (raT ts h up) (raE ts h up)) e0M) 0 (rA_F ts h up x zz) (rA_M ts h up x zz) := by
  have hs := hf.ok.sz
  have hb := hf.ok
  have hbk : BkOk (bkB ts) := hf.ok.bk
  have h64 : (64 : Nat) ≤ 448 := by decide
  obtain ⟨s1, s2, s3, s4, s5, s6, s7⟩ := good_f hb hh
  have hh' : 0 ≤ h ∧ h < 4294967296 := s6
  have es : (slotI h).toNat = sl h := rfl
  have n1 : ¬ (gdF ts h = false ∨ (up ≠ 0 ∧ gdF ts up = false)) := by
    rintro (k | ⟨k1, k2⟩)
    · rw [hh] at k; cases k
    · rcases hu with k | k
      · exact k1 k
      · rw [k] at k2; cases k2
  refine up_ind hf.fo (fun hi => ?_) fun x hx ih hi => ?_
  · have n2 : h ∉ chL (upF ts) up := fun k => by have := hi.2 k; rw [ch_zero] at this; cases this
    have e1 : raE ts h up = 0 := by unfold raE; rw [if_neg n1, if_neg n2]
    have e2 : raT ts h up = raS ts h up := by unfold raT; rw [if_pos e1]
    refine past_vc ERa_ok 1000 (raF ts h up 0 zz (raT ts h up) (raE ts h up) (fun _ _ => False)) ?_ (fun _ _ h => h) (fun fs m hb => ra1_go (fun _ _ h => h.elim) hb)
    have e3 : ts.setIfInBounds (64 + sl h * 12) (.int .u32 up) = raS ts h up := rfl
    have e4 : (raS ts h up).size = 448 := by unfold raS; rw [set_size]; exact hs
    have y : 64 + sl h * 12 < 448 := by omega
    simp only [bne_self_eq_false, e1, e2, e3, e4, es, hs, hz, hh', s1, s2, y, true_implies, Bool.false_eq_true, false_implies, and_true, true_and]
  · refine past_vc ERa_ok 1000 (raF ts h up x zz (raT ts h up) (raE ts h up) (fun x' z' => x' = upF ts x ∧ z' = zz ∧ (x == h) = false)) ?_ (fun _ _ h => h) (fun fs m hb => ra1_go (fun x' z' ⟨e1, e2, e3⟩ => by
      rw [e1, e2]
      refine ih ?_
      rw [← hi, ch_cons hf.fo hx]
      have e3 : x ≠ h := beq_eq_false_iff_ne.1 e3
      rw [List.mem_cons]
      exact ⟨.inr, fun k => k.resolve_left fun e => e3 e.symm⟩) hb)
    have d : (x != 0) = true := bne_iff_ne.2 (hf.fo.nz x hx)
    have hx' : 0 ≤ x ∧ x < 4294967296 := lv_in hb (.inr hx)
    cases c : (x == h) with
    | true =>
      have e : h ∈ chL (upF ts) up := by
        rw [← hi, ch_cons hf.fo hx, beq_iff_eq.1 c]
        exact List.mem_cons_self ..
      have e1 : raE ts h up = 12 := by unfold raE; rw [if_neg n1, if_pos e]
      have e2 : raT ts h up = ts := by unfold raT; rw [if_neg (by rw [e1]; decide)]
      simp only [d, e1, e2, hs, hz, true_implies, Bool.true_eq_false, false_implies, and_true, true_and]
    | false =>
      have hgx := (lv_mem hb).1 hx
      obtain ⟨x1, x2, x3, x4, x5, x6, x7⟩ := good_f hb hgx
      have r := hb.rg _ x3
      have esx : (slotI x).toNat = sl x := rfl
      have t0 : IsInt .u32 ts (64 + sl x * 12) := r.u
      have hu0 : 0 ≤ intAt ts (64 + sl x * 12) ∧ intAt ts (64 + sl x * 12) < 4294967296 := r.hu
      cases hp : goodB (bkB ts) (intAt ts (64 + sl x * 12)) with
      | true =>
        have eu : upF ts x = intAt ts (64 + sl x * 12) := by unfold upF; rw [hgx, if_pos rfl]; exact if_pos hp
        simp only [bk_f, d, hp, eu, esx, hs, h64, hbk, hx', hu0, x1, x2, t0, true_implies, Bool.true_eq_false, Bool.false_eq_true, false_implies, and_true, true_and, rA_d0_ok]
      | false =>
        have eu : upF ts x = 0 := by unfold upF; rw [hgx, if_pos rfl]; exact if_neg (fun k => by have k : goodB (bkB ts) (intAt ts (64 + sl x * 12)) = true := k; rw [hp] at k; cases k)
        simp only [bk_f, d, hp, eu, esx, hs, h64, hbk, hx', hu0, x1, x2, t0, true_implies, Bool.true_eq_false, Bool.false_eq_true, false_implies, and_true, true_and, rA_d0_ok]
theorem raise_con (h up : Int) (m : SMem) : Con E0 17 [tbS ts, u32 h, u32 up] m (needs [FIn ts, inH h, inH up] (.ret (rgS (raT ts h up) (raE ts h up)) m)) := by
  refine Con.pure E0_ok (by kernel_rfl : E0.fn 17 = some Tryd.f17) (by kernel_rfl : Tryd.f17.body = some (Tryd.f17.body.getD .skip)) (by kernel_rfl) (by kernel_rfl) fun hq => ?_
  have hf : FIn ts := hq _ (by simp)
  have hh : inH h := hq _ (by simp)
  have hu : inH up := hq _ (by simp)
  have hh' : 0 ≤ h ∧ h < 4294967296 := hh
  have hu' : 0 ≤ up ∧ up < 4294967296 := hu
  have hs := hf.ok.sz
  have h64 : (64 : Nat) ≤ 448 := by decide
  have hbk : BkOk (bkB ts) := hf.ok.bk
  refine (Good.ret [] (run_vc ERa_ok 1000 (raF0 ts h up (raT ts h up) (raE ts h up) (fun x z => x = up ∧ z.size = 448 ∧ gdF ts h = true ∧ (up = 0 ∨ gdF ts up = true))) ?_ (fun s m h => h) fun fs m hb => ra0_go (fun x z ⟨e1, e2, e3, e4⟩ => by
    rw [e1]
    exact rA_ok hf e3 e4 e2 up (e4.imp id (lv_mem hf.ok).2) Iff.rfl) hb)).mono fun _ _ h => h.1
  have bad : (gdF ts h = false ∨ (up ≠ 0 ∧ gdF ts up = false)) → raT ts h up = ts ∧ raE ts h up = 4 := fun k => by
    have e1 : raE ts h up = 4 := by unfold raE; rw [if_pos k]
    exact ⟨by unfold raT; rw [if_neg (by rw [e1]; decide)], e1⟩
  cases hg : goodB (bkB ts) h with
  | false =>
    obtain ⟨e1, e2⟩ := bad (.inl hg)
    simp only [bk_f, hg, e1, e2, hs, h64, hbk, hh', beqF, Bool.not_true, Bool.not_false, true_implies, Bool.true_eq_false, Bool.false_eq_true, false_implies, and_true, true_and]
  | true =>
    have hg' : gdF ts h = true := hg
    by_cases hz : up = 0
    · have d : (up != 0) = false := by rw [hz]; rfl
      simp only [bk_f, hg, hg', d, hz, bne_self_eq_false, hs, h64, hbk, hh', beqT, beqF, Bool.not_true, Bool.not_false, true_implies, Bool.true_eq_false, Bool.false_eq_true, false_implies, and_true, true_and, true_or, rA_d0_ok]
      rfl
    · have d : (up != 0) = true := bne_iff_ne.2 hz
      cases hgu : goodB (bkB ts) up with
      | false =>
        obtain ⟨e1, e2⟩ := bad (.inr ⟨hz, hgu⟩)
        simp only [bk_f, hg, hgu, d, e1, e2, hs, h64, hbk, hh', hu', beqT, beqF, Bool.not_true, Bool.not_false, true_implies, Bool.true_eq_false, Bool.false_eq_true, false_implies, and_true, true_and]
      | true =>
        have hgu' : gdF ts up = true := hgu
        simp only [bk_f, hg, hg', hgu, hgu', d, hs, h64, hbk, hh', hu', beqT, beqF, Bool.not_true, Bool.not_false, true_implies, Bool.true_eq_false, Bool.false_eq_true, false_implies, and_true, true_and, or_true, rA_d0_ok]
        rfl
end
end Go.Proofs.YtjjeahnbppmigaaDoor
/- Of tables: what stands where behind Drop, Set, Raise, New; what stays so. No condition. -/
namespace Go.Proofs.YtjjeahnbppmigaaDoor
set_option linter.unusedSectionVars false
variable [Gh]
set_option linter.unusedVariables false
set_option maxRecDepth 100000
section
variable {ts : Array Value} {h : Int}
theorem SlV.one {v : Value} (h : SlV v) : v.oneCell' = true := by
  obtain ⟨r, ⟨rfl, _⟩ | ⟨b, o, n, c, cs, rfl, _⟩⟩ := h <;> rfl
theorem slv_nil : SlV (.slice none 0 0) := ⟨#[], .inl ⟨rfl, rfl⟩⟩
theorem sl_ne (hb : TbOk ts) {x y : Int} (hx : gdF ts x = true) (hy : gdF ts y = true) (hne : x ≠ y) : sl x ≠ sl y := fun e => by
  have h1 := (good_f hb hx).2.2.2.2.1
  have h2 := (good_f hb hy).2.2.2.2.1
  rw [e] at h1
  exact hne (h1.trans h2.symm)
omit [Gh] in
def Same12 (us ts : Array Value) (x : Int) : Prop := ∀ j, j < 12 → us[64 + sl x * 12 + j]? = ts[64 + sl x * 12 + j]?
omit [Gh] in
theorem rg_eq {us : Array Value} {x : Int} (hc : Same12 us ts x) : upR us x = upR ts x ∧ quF us x = quF ts x ∧ (∀ k, k < 8 → ceF us x k = ceF ts x k) ∧ slF us x = slF ts x ∧ lnF us x = lnF ts x := by
  have i : ∀ j, j < 12 → intAt us (64 + sl x * 12 + j) = intAt ts (64 + sl x * 12 + j) := fun j hj => by unfold intAt; rw [hc j hj]
  refine ⟨?_, i 1 (by decide), fun k hk => ?_, ?_, i 3 (by decide)⟩
  · have := i 0 (by decide)
    unfold upR pl
    rw [Nat.add_zero] at this
    exact this
  · have := i (4 + k) (by omega)
    unfold ceF pl
    rw [Nat.add_assoc (64 + sl x * 12)]
    exact this
  · unfold slF valAt pl
    rw [hc 2 (by decide)]
theorem rg_new {us : Array Value} {p : Nat} {u q l c0 c1 c2 c3 c4 c5 c6 c7 : Int} {v : Value} (hc : ∀ k, k < 12 → us[p + k]? = (rwL u q v l c0 c1 c2 c3 c4 c5 c6 c7)[k]?) (hu : inH u) (hq : 0 ≤ q ∧ q ≤ 64) (hv : SlV v) (hcc : inH c0 ∧ inH c1 ∧ inH c2 ∧ inH c3 ∧ inH c4 ∧ inH c5 ∧ inH c6 ∧ inH c7) : RgOk us p := by
  have e0 : us[p]? = some (.int .u32 u) := hc 0 (by decide)
  have e1 : us[p + 1]? = some (.int .i64 q) := hc 1 (by decide)
  have e2 : us[p + 2]? = some v := hc 2 (by decide)
  have e3 : us[p + 3]? = some (.int .i64 l) := hc 3 (by decide)
  have ev : valAt us (p + 2) = v := by unfold valAt; rw [e2]; rfl
  obtain ⟨h0, h1, h2, h3, h4, h5, h6, h7⟩ := hcc
  have ek : ∀ k, k < 8 → ∃ c, us[p + 4 + k]? = some (.int .u32 c) ∧ inH c := fun k hk => by
    rw [Nat.add_assoc, hc (4 + k) (by omega)]
    match k, hk with
    | 0, _ => exact ⟨_, rfl, h0⟩
    | 1, _ => exact ⟨_, rfl, h1⟩
    | 2, _ => exact ⟨_, rfl, h2⟩
    | 3, _ => exact ⟨_, rfl, h3⟩
    | 4, _ => exact ⟨_, rfl, h4⟩
    | 5, _ => exact ⟨_, rfl, h5⟩
    | 6, _ => exact ⟨_, rfl, h6⟩
    | 7, _ => exact ⟨_, rfl, h7⟩
  refine ⟨isI_of e0, isI_of e1, by rw [ev]; exact hv, ⟨v, e2, hv.one⟩, isI_of e3, fun k hk => ?_, by rw [intAt_of e0]; exact hu, by rw [intAt_of e1]; exact hq, fun k hk => ?_⟩
  · obtain ⟨c, k1, _⟩ := ek k hk
    exact isI_of k1
  · obtain ⟨c, k1, k2⟩ := ek k hk
    rw [intAt_of k1]; exact k2
theorem rg_same {us : Array Value} {p q : Nat} (hr : RgOk ts p) (hc : ∀ k, k < 12 → us[q + k]? = ts[p + k]?) : RgOk us q := by
  have c0 : us[q]? = ts[p]? := hc 0 (by decide)
  have i0 : intAt us q = intAt ts p := by unfold intAt; rw [c0]
  have ik : ∀ k, k < 12 → intAt us (q + k) = intAt ts (p + k) := fun k hk => by unfold intAt; rw [hc k hk]
  have iI : ∀ k, k < 12 → ∀ t, IsInt t ts (p + k) → IsInt t us (q + k) := fun k hk t h => by unfold IsInt at *; rw [ik k hk, hc k hk]; exact h
  refine ⟨?_, iI 1 (by decide) _ hr.q, ?_, ?_, iI 3 (by decide) _ hr.l, fun k hk => ?_, by rw [i0]; exact hr.hu, by rw [ik 1 (by decide)]; exact hr.hq, fun k hk => ?_⟩
  · have := hr.u
    unfold IsInt at *
    rw [i0, c0]; exact this
  · unfold valAt
    rw [hc 2 (by decide)]
    exact hr.r
  · obtain ⟨v, k1, k2⟩ := hr.ro
    exact ⟨v, by rw [hc 2 (by decide)]; exact k1, k2⟩
  · have := hr.c k hk
    rw [Nat.add_assoc] at *
    exact iI (4 + k) (by omega) _ this
  · have := hr.hc k hk
    rw [Nat.add_assoc] at *
    rw [ik (4 + k) (by omega)]; exact this
theorem rg_put (hb : TbOk ts) {us : Array Value} {r : Nat} {L : List Value} (hs : us.size = 448) (hbk : BkOk (bkB us)) (hr : r < 32) (hn : RgOk us (64 + r * 12)) (hc : ∀ i j, i < 32 → j < 12 → us[64 + i * 12 + j]? = if i = r then L[j]? else ts[64 + i * 12 + j]?) : TbOk us ∧ ∀ x, sl x < 32 → sl x ≠ r → Same12 us ts x := by
  refine ⟨⟨hs, hbk, fun i hi => ?_⟩, fun x hx hne j hj => by rw [hc _ j hx hj, if_neg hne]⟩
  by_cases e : i = r
  · rw [e]; exact hn
  · exact rg_same (hb.rg i hi) fun k hk => by rw [hc i k hi hk, if_neg e]
omit [Gh] in
theorem in0 : inH 0 := ⟨by decide, by decide⟩
/-! Drop. -/
theorem drop_f (hb : TbOk ts) (hg : gdF ts h = true) : TbOk (drT ts h) ∧ bkB (drT ts h) = voidB (bkB ts) h ∧ (∀ x, gdF (drT ts h) x = (gdF ts x && !decide (x = h))) ∧ (∀ x, gdF ts x = true → x ≠ h → Same12 (drT ts h) ts x) := by
  have hv := (void_bk hb.bk h).sz
  obtain ⟨p1, p2, p3⟩ := put_bk (bs := voidB (bkB ts) h) hb.sz hv
  obtain ⟨q1, q2, q3⟩ := put_rg (ts := putAt ts 0 (voidB (bkB ts) h).toList) (l := z12) p1 (good_f hb hg).2.2.1 rfl
  have h1 : bkB (drT ts h) = voidB (bkB ts) h := q2.trans p2
  have h2 : ∀ i j, i < 32 → j < 12 → (drT ts h)[64 + i * 12 + j]? = if i = sl h then z12[j]? else ts[64 + i * 12 + j]? := fun i j hi hj => by
    have := q3 i j hi hj
    rw [show drT ts h = putAt (putAt ts 0 (voidB (bkB ts) h).toList) (64 + sl h * 12) z12 from rfl, this]
    split
    · rfl
    · exact p3 _ (by omega)
  obtain ⟨r1, r3⟩ := rg_put (us := drT ts h) hb (dr_size hb hg) (by rw [h1]; exact void_bk hb.bk h) (good_f hb hg).2.2.1 (rg_new (u := 0) (q := 0) (l := 0) (v := .slice none 0 0) (c0 := 0) (c1 := 0) (c2 := 0) (c3 := 0) (c4 := 0) (c5 := 0) (c6 := 0) (c7 := 0) (fun k hk => by rw [h2 _ _ (good_f hb hg).2.2.1 hk, if_pos rfl]; rfl) in0 ⟨by decide, by decide⟩ slv_nil ⟨in0, in0, in0, in0, in0, in0, in0, in0⟩) h2
  refine ⟨r1, h1, fun x => ?_, fun x hx hne => r3 x (good_f hb hx).2.2.1 (sl_ne hb hx hg hne)⟩
  unfold gdF
  rw [h1]
  exact void_good hb.bk h x
theorem drop_up (hb : TbOk ts) (hg : gdF ts h = true) {x : Int} (hx : gdF ts x = true) (hne : x ≠ h) : upF (drT ts h) x = if upF ts x = h then 0 else upF ts x := by
  obtain ⟨_, _, r3, r4⟩ := drop_f hb hg
  have h1 := (good_f hb hg).2.2.2.2.2.2
  have e := (rg_eq (r4 x hx hne)).1
  have g : gdF (drT ts h) x = true := by rw [r3, hx, decide_eq_false hne]; rfl
  unfold upF
  rw [g, hx, if_pos rfl, if_pos rfl, e, r3]
  cases c : gdF ts (upR ts x) with
  | false =>
    simp only [Bool.false_and, Bool.false_eq_true, if_false]
    rw [if_neg (by omega)]
  | true =>
    by_cases d : upR ts x = h
    · simp [d]
    · simp [d]
/-! Set. -/
theorem set_f (hb : TbOk ts) (hg : gdF ts h = true) {q l c0 c1 c2 c3 c4 c5 c6 c7 : Int} {v : Value} (hq : 0 ≤ q ∧ q ≤ 64) (hv : SlV v) (hcc : inH c0 ∧ inH c1 ∧ inH c2 ∧ inH c3 ∧ inH c4 ∧ inH c5 ∧ inH c6 ∧ inH c7) : TbOk (setP ts h q v l c0 c1 c2 c3 c4 c5 c6 c7) ∧ bkB (setP ts h q v l c0 c1 c2 c3 c4 c5 c6 c7) = bkB ts ∧ upR (setP ts h q v l c0 c1 c2 c3 c4 c5 c6 c7) h = upR ts h ∧ (∀ x, gdF ts x = true → x ≠ h → Same12 (setP ts h q v l c0 c1 c2 c3 c4 c5 c6 c7) ts x) := by
  have s3 := (good_f hb hg).2.2.1
  obtain ⟨q1, q2, q3⟩ := put_rg (ts := ts) (l := rwL (upR ts h) q v l c0 c1 c2 c3 c4 c5 c6 c7) hb.sz s3 rfl
  have q2 : bkB (setP ts h q v l c0 c1 c2 c3 c4 c5 c6 c7) = bkB ts := q2
  have q3 : ∀ i j, i < 32 → j < 12 → (setP ts h q v l c0 c1 c2 c3 c4 c5 c6 c7)[64 + i * 12 + j]? = if i = sl h then (rwL (upR ts h) q v l c0 c1 c2 c3 c4 c5 c6 c7)[j]? else ts[64 + i * 12 + j]? := q3
  obtain ⟨r1, r3⟩ := rg_put (us := setP ts h q v l c0 c1 c2 c3 c4 c5 c6 c7) hb q1 (by rw [q2]; exact hb.bk) s3 (rg_new (u := upR ts h) (q := q) (v := v) (l := l) (fun k hk => by rw [q3 _ _ s3 hk, if_pos rfl]) (hb.rg _ s3).hu hq hv hcc) q3
  refine ⟨r1, q2, ?_, fun x hx hne => r3 x (good_f hb hx).2.2.1 (sl_ne hb hx hg hne)⟩
  have := q3 _ 0 s3 (by decide)
  rw [if_pos rfl, Nat.add_zero] at this
  exact intAt_of this
theorem set_set (hb : TbOk ts) (hg : gdF ts h = true) {q l c0 c1 c2 c3 c4 c5 c6 c7 : Int} {v w : Value} : (setP ts h q v l c0 c1 c2 c3 c4 c5 c6 c7).setIfInBounds (pl h + 2) w = setP ts h q w l c0 c1 c2 c3 c4 c5 c6 c7 := by
  have s3 := (good_f hb hg).2.2.1
  obtain ⟨q1, q2, q3⟩ := put_rg (ts := ts) (l := rwL (upR ts h) q v l c0 c1 c2 c3 c4 c5 c6 c7) hb.sz s3 rfl
  obtain ⟨p1, p2, p3⟩ := put_rg (ts := ts) (l := rwL (upR ts h) q w l c0 c1 c2 c3 c4 c5 c6 c7) hb.sz s3 rfl
  have hs := hb.sz
  have ep : pl h = 64 + sl h * 12 := rfl
  have lv : ∀ x, (rwL (upR ts h) q x l c0 c1 c2 c3 c4 c5 c6 c7).length = 12 := fun x => rfl
  apply Array.ext_getElem?
  intro k
  unfold setP
  by_cases e : k = pl h + 2
  · rw [e, set_in (by rw [ep, q1]; omega), putAt_in (by rw [lv]; omega) (by omega) (by rw [lv]; omega), show pl h + 2 - pl h = 2 by omega]
    rfl
  · rw [set_out e]
    by_cases o : pl h ≤ k ∧ k < pl h + 12
    · rw [putAt_in (by rw [lv]; omega) (by omega) (by rw [lv]; omega), putAt_in (by rw [lv]; omega) (by omega) (by rw [lv]; omega)]
      obtain ⟨j, hj, ek⟩ : ∃ j, j < 12 ∧ k - pl h = j := ⟨k - pl h, by omega, rfl⟩
      have hj2 : j ≠ 2 := by omega
      rw [ek]
      match j, hj, hj2 with
      | 0, _, _ | 1, _, _ | 3, _, _ | 4, _, _ | 5, _, _ | 6, _, _ | 7, _, _ | 8, _, _ | 9, _, _ | 10, _, _ | 11, _, _ => rfl
    · rw [putAt_out (by rw [lv]; omega) (by rw [lv]; omega), putAt_out (by rw [lv]; omega) (by rw [lv]; omega)]
omit [Gh] in
theorem gd_bk {us : Array Value} (e : bkB us = bkB ts) (x : Int) : gdF us x = gdF ts x := by unfold gdF; rw [e]
omit [Gh] in
theorem lv_bk {us : Array Value} (e : bkB us = bkB ts) : lvT us = lvT ts := by unfold lvT; rw [e]
omit [Gh] in
theorem up_bk {us : Array Value} (e : bkB us = bkB ts) {x : Int} (hx : upR us x = upR ts x) : upF us x = upF ts x := by unfold upF; rw [gd_bk e, gd_bk e, hx]
/-! Raise. -/
theorem raS_f (hb : TbOk ts) (hg : gdF ts h = true) {u : Int} (hu : inH u) : TbOk (raS ts h u) ∧ bkB (raS ts h u) = bkB ts ∧ upR (raS ts h u) h = u ∧ (∀ x, gdF ts x = true → x ≠ h → Same12 (raS ts h u) ts x) := by
  have hs := hb.sz
  have h3 := (good_f hb hg).2.2.1
  have hp : pl h < 448 := by unfold pl; omega
  have sz : (raS ts h u).size = 448 := by unfold raS; rw [set_size]; exact hs
  have out : ∀ k, k ≠ pl h → (raS ts h u)[k]? = ts[k]? := fun k hk => by unfold raS; exact set_out hk
  have hin : (raS ts h u)[pl h]? = some (.int .u32 u) := by unfold raS; exact set_in (by omega)
  have bk : bkB (raS ts h u) = bkB ts := by
    apply Array.ext_getElem?
    intro j
    unfold bkB
    by_cases c : j < 64
    · rw [ext_get (by omega) (by omega), ext_get (by omega) (by omega)]
      exact out _ (by unfold pl; omega)
    · rw [Array.getElem?_eq_none (by rw [ext_size (by omega)]; omega), Array.getElem?_eq_none (by rw [ext_size (by omega)]; omega)]
  refine ⟨⟨sz, by rw [bk]; exact hb.bk, fun i hi => ?_⟩, bk, intAt_of hin, fun x hx hne j hj => ?_⟩
  · by_cases e : i = sl h
    · have r := hb.rg _ h3
      have ep : 64 + sl h * 12 = pl h := rfl
      rw [e]
      have o : ∀ j, j ≠ 0 → (raS ts h u)[64 + sl h * 12 + j]? = ts[64 + sl h * 12 + j]? := fun j hj => out _ (by rw [← ep]; omega)
      have oi : ∀ j, j ≠ 0 → intAt (raS ts h u) (64 + sl h * 12 + j) = intAt ts (64 + sl h * 12 + j) := fun j hj => by unfold intAt; rw [o j hj]
      have ok : ∀ j, j ≠ 0 → ∀ k, IsInt k ts (64 + sl h * 12 + j) → IsInt k (raS ts h u) (64 + sl h * 12 + j) := fun j hj k hk => by
        unfold IsInt at *
        rw [oi j hj, o j hj]; exact hk
      refine ⟨isI_of hin, ok 1 (by decide) _ r.q, ?_, ?_, ok 3 (by decide) _ r.l, fun k hk => ?_, by rw [ep, intAt_of hin]; exact hu, by rw [oi 1 (by decide)]; exact r.hq, fun k hk => ?_⟩
      · unfold valAt
        rw [o 2 (by decide)]
        exact r.r
      · obtain ⟨v, k1, k2⟩ := r.ro
        exact ⟨v, by rw [o 2 (by decide)]; exact k1, k2⟩
      · have := r.c k hk
        rw [Nat.add_assoc] at *
        exact ok (4 + k) (by omega) _ this
      · have := r.hc k hk
        rw [Nat.add_assoc] at *
        rw [oi (4 + k) (by omega)]; exact this
    · exact rg_same (hb.rg i hi) fun k hk => out _ (by unfold pl; omega)
  · have := sl_ne hb hx hg hne
    have := (good_f hb hx).2.2.1
    exact out _ (by unfold pl; omega)
/-! New. -/
theorem iss_new (hb : TbOk ts) (ho : issueOk (bkB ts) = true) : gdF ts (issueI (bkB ts)) = false ∧ issueI (bkB ts) ≠ 0 ∧ ∀ x, gdF ts x = true → sl x ≠ sl (issueI (bkB ts)) := by
  rcases issue_cases (bs := bkB ts) with ⟨_, _, _, e⟩ | ⟨i, h1, h2, e1, e2, e3, _⟩
  · rw [ho] at e; cases e
  · have hr := hb.bk.ra i h1
    have es : sl (issueI (bkB ts)) = i := by rw [e2]; exact slotI_name h1 hr
    have hk : ∀ x, gdF ts x = true → sl x ≠ sl (issueI (bkB ts)) := fun x hx e => by
      have := (good_f hb hx).2.2.2.1
      rw [e, es, h2] at this
      exact absurd this (by decide)
    refine ⟨?_, by rw [e2]; unfold nameI; omega, hk⟩
    cases c : gdF ts (issueI (bkB ts)) with
    | false => rfl
    | true => exact absurd rfl (hk _ c)
theorem nw_f (hb : TbOk ts) (ho : issueOk (bkB ts) = true) {u q : Int} (hu : inH u) (hq : 0 ≤ q ∧ q ≤ 64) : TbOk (nwT ts u q) ∧ bkB (nwT ts u q) = issueB (bkB ts) ∧ (∀ x, gdF (nwT ts u q) x = (gdF ts x || decide (x = issueI (bkB ts)))) ∧ upR (nwT ts u q) (issueI (bkB ts)) = u ∧ (∀ x, gdF ts x = true → Same12 (nwT ts u q) ts x) := by
  have hv := (issue_bk hb.bk).sz
  have i3 := (iss_f hb).2.2.2
  obtain ⟨p1, p2, p3⟩ := put_bk (bs := issueB (bkB ts)) hb.sz hv
  obtain ⟨q1, q2, q3⟩ := put_rg (ts := putAt ts 0 (issueB (bkB ts)).toList) (l := (rgA u q 0 fun _ => 0).toList) p1 i3 rfl
  have h1 : bkB (nwT ts u q) = issueB (bkB ts) := q2.trans p2
  have h2 : ∀ i j, i < 32 → j < 12 → (nwT ts u q)[64 + i * 12 + j]? = if i = sl (issueI (bkB ts)) then (rgA u q 0 fun _ => 0).toList[j]? else ts[64 + i * 12 + j]? := fun i j hi hj => by
    have := q3 i j hi hj
    rw [show nwT ts u q = putAt (putAt ts 0 (issueB (bkB ts)).toList) (64 + sl (issueI (bkB ts)) * 12) (rgA u q 0 fun _ => 0).toList from rfl, this]
    split
    · rfl
    · exact p3 _ (by omega)
  obtain ⟨r1, r3⟩ := rg_put (us := nwT ts u q) hb (nw_size hb) (by rw [h1]; exact issue_bk hb.bk) i3 (rg_new (u := u) (q := q) (l := 0) (v := .slice none 0 0) (c0 := 0) (c1 := 0) (c2 := 0) (c3 := 0) (c4 := 0) (c5 := 0) (c6 := 0) (c7 := 0) (fun k hk => by rw [h2 _ _ i3 hk, if_pos rfl]; rfl) hu hq slv_nil ⟨in0, in0, in0, in0, in0, in0, in0, in0⟩) h2
  refine ⟨r1, h1, fun x => ?_, ?_, fun x hx => r3 x (good_f hb hx).2.2.1 ((iss_new hb ho).2.2 x hx)⟩
  · unfold gdF
    rw [h1, issue_good hb.bk x, ho, Bool.true_and]
  · have := h2 _ 0 i3 (by decide)
    rw [if_pos rfl, Nat.add_zero] at this
    exact intAt_of this
end
end Go.Proofs.YtjjeahnbppmigaaDoor
/- Of tables: nothing is above itself, and what is done to one region leaves all others as they are. No condition. -/
namespace Go.Proofs.YtjjeahnbppmigaaDoor
set_option linter.unusedSectionVars false
variable [Gh]
set_option linter.unusedVariables false
set_option maxRecDepth 100000
section
variable {ts : Array Value} {h : Int}
theorem used_good (hb : TbOk ts) {x : Int} (hx : gdF ts x = true) : usedB (bkB ts) x := by
  obtain ⟨i, h1, h2, e⟩ := (goodB_iff hb.bk).1 hx
  exact ⟨i, ageAt (bkB ts) i, h1, (hb.bk.ra i h1).1, e, .inr ⟨rfl, by rw [h2]; decide⟩⟩
omit [Gh] in
theorem lv_len (ts : Array Value) : (lvT ts).length ≤ 32 := issL_le 32
structure TI (ts : Array Value) : Prop where
  ok : TbOk ts
  fo : FoOk (lvT ts) (upF ts)
  us : ∀ x ∈ lvT ts, upR ts x = 0 ∨ usedB (bkB ts) (upR ts x)
theorem up_in (hb : TbOk ts) {x : Int} (hu : upF ts x ≠ 0) : upF ts x ∈ lvT ts ∧ upF ts x = upR ts x := by
  unfold upF at hu ⊢
  split at hu
  · rename_i h1
    split at hu
    · rename_i h2
      rw [if_pos h1, if_pos h2]
      exact ⟨(lv_mem hb).2 h2, rfl⟩
    · exact absurd rfl hu
  · exact absurd rfl hu
theorem ti_of (hb : TbOk ts) {rank : Int → Nat} (hr : ∀ x ∈ lvT ts, upF ts x ≠ 0 → rank (upF ts x) < rank x) (hu : ∀ x ∈ lvT ts, upR ts x = 0 ∨ usedB (bkB ts) (upR ts x)) : TI ts :=
  ⟨hb, fo_rank (rank := rank) (issued_nodup hb.bk) (fun x hx => by have := (goodB_in hb.bk ((lv_mem hb).1 hx)).2; omega) (lv_len ts) (fun x hx h0 => ⟨(up_in hb h0).1, hr x hx h0⟩), hu⟩
omit [Gh] in
def Acts (ts ks : Array Value) (h e d : Int) : Prop := ∀ x ∈ lvT ts, (x = h ∧ e = 0) ∨ (gdF ks x = true ∧ Same12 ks ts x ∧ (upF ks x = upF ts x ∨ (e = 0 ∧ d = 0 ∧ upF ts x = h ∧ h ≠ 0 ∧ upF ks x = 0)))
theorem acts_no (hb : TbOk ts) (h e d : Int) : Acts ts ts h e d := fun x hx => .inr ⟨(lv_mem hb).1 hx, fun _ _ => rfl, .inl rfl⟩
theorem ti_drop (hi : TI ts) (hg : gdF ts h = true) : TI (drT ts h) ∧ Acts ts (drT ts h) h 0 0 := by
  have hb := hi.ok
  obtain ⟨k1, k2, k3, k4⟩ := drop_f hb hg
  have old : ∀ x, x ∈ lvT (drT ts h) → gdF ts x = true ∧ x ≠ h := fun x hx => by
    have := (lv_mem k1).1 hx
    rw [k3, Bool.and_eq_true] at this
    exact ⟨this.1, by simpa using this.2⟩
  refine ⟨ti_of k1 (rank := depL (upF ts)) (fun x hx h0 => ?_) (fun x hx => ?_), fun x hx => ?_⟩
  · obtain ⟨g1, g2⟩ := old x hx
    rw [drop_up hb hg g1 g2] at h0 ⊢
    split at h0
    · exact absurd rfl h0
    · rename_i hne
      rw [if_neg hne]
      exact (rank_fo hi.fo x ((lv_mem hb).2 g1) h0).2
  · obtain ⟨g1, g2⟩ := old x hx
    rw [k2, (rg_eq (k4 x g1 g2)).1]
    exact (hi.us x ((lv_mem hb).2 g1)).imp id fun hu => used_void hb.bk hu
  · have g1 := (lv_mem hb).1 hx
    by_cases e : x = h
    · exact .inl ⟨e, rfl⟩
    · refine .inr ⟨by rw [k3, g1, decide_eq_false e]; rfl, k4 x g1 e, ?_⟩
      rw [drop_up hb hg g1 e]
      by_cases c : upF ts x = h
      · have := (good_f hb hg).2.2.2.2.2.2
        exact .inr ⟨rfl, rfl, c, by omega, if_pos c⟩
      · exact .inl (if_neg c)
theorem ti_set (hi : TI ts) (hg : gdF ts h = true) {q l c0 c1 c2 c3 c4 c5 c6 c7 : Int} {v : Value} (hq : 0 ≤ q ∧ q ≤ 64) (hv : SlV v) (hcc : inH c0 ∧ inH c1 ∧ inH c2 ∧ inH c3 ∧ inH c4 ∧ inH c5 ∧ inH c6 ∧ inH c7) (d : Int) :
    TI (setP ts h q v l c0 c1 c2 c3 c4 c5 c6 c7) ∧ Acts ts (setP ts h q v l c0 c1 c2 c3 c4 c5 c6 c7) h 0 d := by
  have hb := hi.ok
  obtain ⟨k1, k2, k3, k4⟩ := set_f hb hg (q := q) (l := l) (v := v) hq hv hcc
  have ur : ∀ x, gdF ts x = true → upR (setP ts h q v l c0 c1 c2 c3 c4 c5 c6 c7) x = upR ts x := fun x hx => by
    by_cases e : x = h
    · rw [e]; exact k3
    · exact (rg_eq (k4 x hx e)).1
  have lm : ∀ x, x ∈ lvT (setP ts h q v l c0 c1 c2 c3 c4 c5 c6 c7) → gdF ts x = true := fun x hx => by rw [lv_bk k2] at hx; exact (lv_mem hb).1 hx
  refine ⟨ti_of k1 (rank := depL (upF ts)) (fun x hx h0 => ?_) (fun x hx => ?_), fun x hx => ?_⟩
  · have g1 := lm x hx
    have e := up_bk k2 (ur x g1)
    rw [e] at h0 ⊢
    exact (rank_fo hi.fo x ((lv_mem hb).2 g1) h0).2
  · rw [k2, ur x (lm x hx)]
    exact hi.us x ((lv_mem hb).2 (lm x hx))
  · have g1 := (lv_mem hb).1 hx
    by_cases e : x = h
    · exact .inl ⟨e, rfl⟩
    · exact .inr ⟨by rw [gd_bk k2]; exact g1, k4 x g1 e, .inl (up_bk k2 (ur x g1))⟩
theorem ti_raise (hi : TI ts) {u : Int} (he : raE ts h u = 0) (hu : inH u) (d : Int) : TI (raS ts h u) ∧ Acts ts (raS ts h u) h 0 d := by
  have hb := hi.ok
  have ⟨hg, hgu, hn⟩ : gdF ts h = true ∧ (u = 0 ∨ gdF ts u = true) ∧ h ∉ chL (upF ts) u := by
    unfold raE at he
    split at he
    · cases he
    · rename_i c1
      split at he
      · cases he
      · rename_i c2
        refine ⟨?_, ?_, c2⟩
        · cases c : gdF ts h with
          | true => rfl
          | false => exact absurd (.inl c) c1
        · by_cases c : u = 0
          · exact .inl c
          · cases c3 : gdF ts u with
            | true => exact .inr rfl
            | false => exact absurd (.inr ⟨c, c3⟩) c1
  obtain ⟨k1, k2, k3, k4⟩ := raS_f hb hg hu
  have lm : ∀ x, x ∈ lvT (raS ts h u) → gdF ts x = true := fun x hx => by rw [lv_bk k2] at hx; exact (lv_mem hb).1 hx
  have hh := (lv_mem hb).2 hg
  have uh : upF (raS ts h u) h = u := by
    unfold upF
    rw [gd_bk k2, hg, if_pos rfl, k3, gd_bk k2]
    rcases hgu with c | c
    · rw [c]; split <;> rfl
    · rw [if_pos c]
  have uo : ∀ x, gdF ts x = true → x ≠ h → upF (raS ts h u) x = upF ts x := fun x hx hne => up_bk k2 (rg_eq (k4 x hx hne)).1
  refine ⟨ti_of k1 (rank := fun x => if h ∈ chL (upF ts) x then depL (upF ts) x + depL (upF ts) u + 1 else depL (upF ts) x) (fun x hx h0 => ?_) (fun x hx => ?_), fun x hx => ?_⟩
  · have g1 := lm x hx
    have hx' := (lv_mem hb).2 g1
    by_cases e : x = h
    · rw [e, uh]
      show (if h ∈ chL (upF ts) u then _ else depL (upF ts) u) < if h ∈ chL (upF ts) h then depL (upF ts) h + depL (upF ts) u + 1 else _
      rw [if_neg hn, if_pos (ch_self hi.fo hh)]
      omega
    · rw [uo x g1 e] at h0 ⊢
      obtain ⟨r1, r2⟩ := rank_fo hi.fo x hx' h0
      have hc : (h ∈ chL (upF ts) x) = (h ∈ chL (upF ts) (upF ts x)) := by
        rw [ch_cons hi.fo hx']
        exact propext ⟨fun k => (List.mem_cons.1 k).resolve_left fun k => e k.symm, fun k => List.mem_cons_of_mem _ k⟩
      show (if h ∈ chL (upF ts) (upF ts x) then depL (upF ts) (upF ts x) + depL (upF ts) u + 1 else depL (upF ts) (upF ts x)) < if h ∈ chL (upF ts) x then depL (upF ts) x + depL (upF ts) u + 1 else depL (upF ts) x
      simp only [hc]
      split <;> omega
  · have g1 := lm x hx
    rw [k2]
    by_cases e : x = h
    · rw [e, k3]
      exact hgu.imp id fun c => used_good hb c
    · rw [(rg_eq (k4 x g1 e)).1]
      exact hi.us x ((lv_mem hb).2 g1)
  · have g1 := (lv_mem hb).1 hx
    by_cases e : x = h
    · exact .inl ⟨e, rfl⟩
    · exact .inr ⟨by rw [gd_bk k2]; exact g1, k4 x g1 e, .inl (uo x g1 e)⟩
theorem ti_new (hi : TI ts) {u q : Int} (he : newE ts u q = 0) (hu : inH u) (h d : Int) : TI (nwT ts u q) ∧ Acts ts (nwT ts u q) h 0 d := by
  have hb := hi.ok
  have ⟨hgu, hq, ho⟩ : (u = 0 ∨ gdF ts u = true) ∧ (0 ≤ q ∧ q ≤ 64) ∧ issueOk (bkB ts) = true := by
    unfold newE at he
    split at he
    · cases he
    · rename_i c1
      split at he
      · rename_i c2
        split at he
        · rename_i c3
          refine ⟨?_, c2, c3⟩
          by_cases c : u = 0
          · exact .inl c
          · cases c4 : gdF ts u with
            | true => exact .inr rfl
            | false => exact absurd ⟨c, c4⟩ c1
        · cases he
      · cases he
  obtain ⟨k1, k2, k3, k4, k5⟩ := nw_f hb ho hu hq
  obtain ⟨n1, n2, n3⟩ := iss_new hb ho
  have nu := (used_new hb.bk ho).2
  have gz : gdF ts 0 = false := by
    cases c : gdF ts 0 with
    | false => rfl
    | true => have := (goodB_in hb.bk c).2; omega
  have same : ∀ x, gdF ts x = true → upF (nwT ts u q) x = upF ts x := fun x hx => by
    have hx' : gdF (nwT ts u q) x = true := by rw [k3, hx]; rfl
    unfold upF
    rw [hx', hx, if_pos rfl, if_pos rfl, (rg_eq (k5 x hx)).1, k3]
    have hne : decide (upR ts x = issueI (bkB ts)) = false := decide_eq_false fun e => by
      rcases hi.us x ((lv_mem hb).2 hx) with k | k
      · rw [k] at e; exact n2 e.symm
      · rw [e] at k; exact nu k
    rw [hne, Bool.or_false]
  have un : upF (nwT ts u q) (issueI (bkB ts)) = u := by
    have hx' : gdF (nwT ts u q) (issueI (bkB ts)) = true := by rw [k3, decide_eq_true rfl, Bool.or_true]
    unfold upF
    rw [hx', if_pos rfl, k4]
    rcases hgu with c | c
    · rw [c]; split <;> rfl
    · rw [if_pos (by rw [k3, c]; rfl)]
  have lm : ∀ x, x ∈ lvT (nwT ts u q) → gdF ts x = true ∨ x = issueI (bkB ts) := fun x hx => by
    have := (lv_mem k1).1 hx
    rw [k3, Bool.or_eq_true] at this
    exact this.imp id fun h => by simpa using h
  refine ⟨ti_of k1 (rank := fun x => if x = issueI (bkB ts) then depL (upF ts) u + 1 else depL (upF ts) x) (fun x hx h0 => ?_) (fun x hx => ?_), fun x hx => ?_⟩
  · rcases lm x hx with g1 | e
    · have hne : x ≠ issueI (bkB ts) := fun e => by rw [e, n1] at g1; cases g1
      rw [same x g1] at h0 ⊢
      obtain ⟨r1, r2⟩ := rank_fo hi.fo x ((lv_mem hb).2 g1) h0
      have hne2 : upF ts x ≠ issueI (bkB ts) := fun e => by rw [e] at r1; rw [(lv_mem hb).1 r1] at n1; cases n1
      show (if upF ts x = issueI (bkB ts) then _ else depL (upF ts) (upF ts x)) < if x = issueI (bkB ts) then _ else depL (upF ts) x
      rw [if_neg hne, if_neg hne2]
      exact r2
    · rw [e, un] at h0 ⊢
      have hne : u ≠ issueI (bkB ts) := fun k => by
        rcases hgu with c | c
        · exact h0 c
        · rw [k, n1] at c; cases c
      show (if u = issueI (bkB ts) then _ else depL (upF ts) u) < if issueI (bkB ts) = issueI (bkB ts) then depL (upF ts) u + 1 else _
      rw [if_neg hne, if_pos rfl]
      omega
  · rw [k2]
    rcases lm x hx with g1 | e
    · rw [(rg_eq (k5 x g1)).1]
      exact (hi.us x ((lv_mem hb).2 g1)).imp id fun hu => used_issue hb.bk hu
    · rw [e, k4]
      exact hgu.imp id fun c => used_issue hb.bk (used_good hb c)
  · have g1 := (lv_mem hb).1 hx
    exact .inr ⟨by rw [k3, g1]; rfl, k5 x g1, .inl (same x g1)⟩
end
end Go.Proofs.YtjjeahnbppmigaaDoor
/- Of tables: the first one. No condition. -/
namespace Go.Proofs.YtjjeahnbppmigaaDoor
set_option linter.unusedSectionVars false
variable [Gh]
set_option linter.unusedVariables false
set_option maxRecDepth 100000
omit [Gh] in
def vEq : Option Value → Option Value → Bool
  | some (.int k a), some (.int k' b) => decide (k = k') && decide (a = b)
  | some (.slice none 0 0), some (.slice none 0 0) => true
  | _, _ => false
omit [Gh] in
theorem vEq_ok {a b : Option Value} (h : vEq a b = true) : a = b := by
  unfold vEq at h
  split at h
  · simp only [Bool.and_eq_true, decide_eq_true_eq] at h
    rw [h.1, h.2]
  · rfl
  · cases h
omit [Gh] in
theorem zT_book : ∀ i, i < 32 → vEq (zT[i * 2]?) (some (.int .u32 0)) = true ∧ vEq (zT[i * 2 + 1]?) (some (.int .u8 0)) = true := by decide +kernel
omit [Gh] in
theorem zT_rg : ∀ i, i < 32 → ∀ k, k < 12 → vEq (zT[64 + i * 12 + k]?) ((rgA 0 0 0 fun _ => 0)[k]?) = true := by decide +kernel
omit [Gh] in
theorem z_bk {i : Nat} (hi : i < 32) : (bkB zT)[i * 2]? = some (.int .u32 0) ∧ (bkB zT)[i * 2 + 1]? = some (.int .u8 0) := by
  obtain ⟨h1, h2⟩ := zT_book i hi
  have h1 := vEq_ok h1
  have h2 := vEq_ok h2
  have hs := zT_sz
  unfold bkB
  rw [ext_get (by omega) (by omega), ext_get (by omega) (by omega), Nat.zero_add, Nat.zero_add]
  exact ⟨h1, h2⟩
omit [Gh] in
theorem z_kind {i : Nat} (hi : i < 32) : kindAt (bkB zT) i = 0 := intAt_of (z_bk hi).2
omit [Gh] in
theorem z_age {i : Nat} (hi : i < 32) : ageAt (bkB zT) i = 0 := intAt_of (z_bk hi).1
omit [Gh] in
theorem z_bkok : BkOk (bkB zT) := by
  refine ⟨by unfold bkB; rw [ext_size (by rw [zT_sz]; decide)], fun i hi => isI_of (z_bk hi).1, fun i hi => isI_of (z_bk hi).2, fun i hi => ?_, fun i hi => ?_⟩
  · rw [z_age hi]; exact ⟨by decide, by decide⟩
  · rw [z_kind hi]; exact ⟨by decide, by decide⟩
theorem z_tb : TbOk zT := ⟨zT_sz, z_bkok, fun i hi => rg_new (us := zT) (p := 64 + i * 12) (u := 0) (q := 0) (v := .slice none 0 0) (l := 0) (c0 := 0) (c1 := 0) (c2 := 0) (c3 := 0) (c4 := 0) (c5 := 0) (c6 := 0) (c7 := 0) (fun k hk => (vEq_ok (zT_rg i hi k hk)).trans (by rw [← Array.getElem?_toList]; rfl)) in0 ⟨by decide, by decide⟩ slv_nil ⟨in0, in0, in0, in0, in0, in0, in0, in0⟩⟩
theorem z_gd (x : Int) : gdF zT x = false := by
  cases c : gdF zT x with
  | false => rfl
  | true =>
    obtain ⟨_, _, s3, s4, _⟩ := good_f z_tb c
    rw [z_kind s3] at s4
    exact absurd s4 (by decide)
theorem z_lv : lvT zT = [] := by
  cases e : lvT zT with
  | nil => rfl
  | cons a l =>
    have : a ∈ lvT zT := by rw [e]; exact List.mem_cons_self ..
    have := (lv_mem z_tb).1 this
    rw [z_gd] at this
    cases this
theorem z_ti : TI zT := ti_of z_tb (rank := fun _ => 0) (fun x hx => by rw [z_lv] at hx; cases hx) (fun x hx => by rw [z_lv] at hx; cases hx)
end Go.Proofs.YtjjeahnbppmigaaDoor
