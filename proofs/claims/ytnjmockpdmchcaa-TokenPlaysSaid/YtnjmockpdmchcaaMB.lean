/- Of token: which tokens there are. No condition. -/
import Derived.Test.YtnjmockpdmchcaaMA
import Derived.Test.YtnjmockpdmchcaaK28
set_option linter.unusedVariables false
set_option linter.unusedSimpArgs false
namespace Go.Proofs.Ytnjmockpdmchcaa
set_option maxRecDepth 100000
set_option linter.unusedSimpArgs false
set_option linter.unusedVariables false
def bkT (ts : Array Value) : Array Value := ts.extract 0 64
def tk5 (ts : Array Value) (i : Nat) : Array Value := (ts.extract 64 144).extract (i * 5) (i * 5 + 5)
structure TkIs (c : Array Value) : Prop where
  r : IsInt .u32 c 0
  b : IsInt .u8 c 1
  t : IsInt .u8 c 2
  m : IsBool c 3
  a : IsInt .u32 c 4
  hr : inH (intAt c 0)
  hb : 0 ≤ intAt c 1 ∧ intAt c 1 ≤ 255
  ht : 0 ≤ intAt c 2 ∧ intAt c 2 ≤ 255
  ha : inH (intAt c 4)
structure TsOk (ts : Array Value) : Prop where
  sz : ts.size = 144
  bk : BkOk (bkT ts)
  tk : ∀ i, i < 16 → TkIs (tk5 ts i)
  hi : ∀ i, 16 ≤ i → i < 32 → kindAt (bkT ts) i = 0
theorem tk5_size {ts : Array Value} (h : ts.size = 144) {i : Nat} (hi : i < 16) : (tk5 ts i).size = 5 := by
  unfold tk5
  rw [Array.size_extract, Array.size_extract]
  omega
def whL (bs : Array Value) (p : Nat → Bool) : Nat → List Int
  | 0 => []
  | i + 1 => if kindAt bs i = 1 ∧ p i = true then whL bs p i ++ [nameI i (ageAt bs i)] else whL bs p i
theorem whL_succ {bs : Array Value} {p : Nat → Bool} (i : Nat) : whL bs p (i + 1) = if kindAt bs i = 1 ∧ p i = true then whL bs p i ++ [nameI i (ageAt bs i)] else whL bs p i := rfl
theorem whL_le {bs : Array Value} {p : Nat → Bool} : ∀ n, (whL bs p n).length ≤ n
  | 0 => Nat.le_refl _
  | n + 1 => by
    have := whL_le (bs := bs) (p := p) n
    rw [whL_succ]
    split
    · rw [List.length_append]; show _ + 1 ≤ _; omega
    · omega
theorem whL_pre {bs : Array Value} {p : Nat → Bool} {i j : Nat} (h : i ≤ j) (e : whL bs p j = []) : whL bs p i = [] := by
  induction j with
  | zero =>
    obtain rfl : i = 0 := by omega
    exact e
  | succ j ih =>
    by_cases c : i = j + 1
    · rw [c]; exact e
    · refine ih (by omega) ?_
      rw [whL_succ] at e
      split at e
      · simp at e
      · exact e
theorem at_t {ts : Array Value} (hb : BkOk (bkT ts)) {i : Nat} (hi : i < 32) : atOk (ts.extract 0 64) (i : Int) = decide (kindAt (bkT ts) i = 1) ∧ (kindAt (bkT ts) i = 1 → atI (ts.extract 0 64) (i : Int) = nameI i (ageAt (bkT ts) i)) := at_i (bs := bkT ts) hi
theorem EH2_ok : EnvOk EH2 := EnvOk.with E0_ok _ _ conH1_ok
theorem u8_wrap {t : Int} (h : 0 ≤ t ∧ t ≤ 255) : IntKind.i64.wrap t = t := i64_in' (by omega) (by omega)
theorem box_i {R R' : Ren} {k : IntKind} {n : SI} {cs : Array Value} (h : (SA.ls [.f (.int k n)]).okM R cs) : (SA.ls [.f (.int k (.o n.den))]).okM R' cs := by
  have h : All2 (SC.ok R) [.f (.int k n)] cs.toList := h
  show All2 (SC.ok R') [.f (.int k (.o n.den))] cs.toList
  revert h
  generalize cs.toList = l
  intro h
  match l, h with
  | [v], h => exact ⟨h.1, trivial⟩
theorem box_b {R R' : Ren} {n : SB} {cs : Array Value} (h : (SA.ls [.f (.bool n)]).okM R cs) : (SA.ls [.f (.bool (.o n.den))]).okM R' cs := by
  have h : All2 (SC.ok R) [.f (.bool n)] cs.toList := h
  show All2 (SC.ok R') [.f (.bool (.o n.den))] cs.toList
  revert h
  generalize cs.toList = l
  intro h
  match l, h with
  | [v], h => exact ⟨h.1, trivial⟩
theorem any_nil {R R' : Ren} {l : List Value} (h : All2 (SF.ok R) [] l) : All2 (SF.ok R') [] l := by
  cases l with
  | nil => trivial
  | cons _ _ => exact h.elim
theorem fn27 : E0.fn 27 = some Try.f27 := by kernel_rfl
theorem body27 : Try.f27.body = some (Try.f27.body.getD .skip) := by kernel_rfl
section
variable {ts : Array Value} {x y : Int} {z : Bool}
def aP (ts : Array Value) (x : Int) (i : Nat) : Bool := intAt (tk5 ts i) 0 == x
theorem aZS_good {A : SV → SMem → Prop} {QZ : Int → Prop} {QS : Int → Nat → Array Value → Prop} {fs : List SFr} {m : SMem} (hz : ∀ i, QZ i → Good Try.prog A 3 (aZ_F ts x i) (aZ_M ts x i)) (hs : ∀ i k cs, QS i k cs → Good Try.prog A 3 (aS_F ts x i k cs) (aS_M ts x i k cs)) (hb : aZS ts x QZ QS fs m) : Good Try.prog A 3 fs m := by
  unfold aZS at hb
  split at hb
  · split at hb
    · exact aS_good hs hb
    · exact aZ_good hz hb
  · exact hb.elim
theorem aS_ok (h : TsOk ts) : ∀ (k i : Nat), i + k = 16 → Good Try.prog (freshR (whL (bkT ts) (aP ts x) 16).length (u32s (whL (bkT ts) (aP ts x) 16))) 3 (aS_F ts x (i : Int) (whL (bkT ts) (aP ts x) i).length (u32s (whL (bkT ts) (aP ts x) i))) (aS_M ts x (i : Int) (whL (bkT ts) (aP ts x) i).length (u32s (whL (bkT ts) (aP ts x) i))) := by
  intro k
  induction k with
  | zero =>
    intro i hi
    obtain rfl : i = 16 := by omega
    refine past_vc EH2_ok 1000 (a3 ts x ((16 : Nat) : Int) _ _ (whL (bkT ts) (aP ts x) 16).length (u32s (whL (bkT ts) (aP ts x) 16)) (fun _ _ _ => False)) ?_ (fun _ _ h => h) (fun fs m hb => aS_good (fun _ _ _ h => h.elim) hb)
    have d : decide (((16 : Nat) : Int) < 16) = false := rfl
    simp only [d, true_implies, Bool.true_eq_false, Bool.false_eq_true, false_implies, and_true, true_and]
  | succ k ih =>
    intro i hi
    refine past_vc EH2_ok 1000 (a3 ts x (i : Int) _ _ (whL (bkT ts) (aP ts x) 16).length (u32s (whL (bkT ts) (aP ts x) 16)) (fun i' k' c' => i' = ((i + 1 : Nat) : Int) ∧ k' = (whL (bkT ts) (aP ts x) (i + 1)).length ∧ c' = u32s (whL (bkT ts) (aP ts x) (i + 1)))) ?_ (fun _ _ h => h)
      (fun fs m hb => aS_good (fun i' k' c' ⟨e1, e2, e3⟩ => by rw [e1, e2, e3]; exact ih (i + 1) (by omega)) hb)
    have d : decide ((i : Int) < 16) = true := decide_eq_true (by omega)
    have ei : ari .add .i64 (i : Int) 1 = ((i + 1 : Nat) : Int) := by rw [ari_add, i64_in' (by omega) (by omega)]; omega
    obtain ⟨a1, a2⟩ := at_t h.bk (i := i) (by omega)
    have hle := whL_le (bs := bkT ts) (p := (aP ts x)) i
    have htk := h.tk i (by omega)
    have h5 : (ts.extract 64 144).extract (i * 5) (i * 5 + 5) = tk5 ts i := rfl
    have hz5 := tk5_size h.sz (i := i) (by omega)
    have hsz := h.sz
    have he : (ts.extract 64 144).size = 80 := by rw [Array.size_extract]; omega
    have hbk : BkOk (ts.extract 0 64) := h.bk
    by_cases c : kindAt (bkT ts) i = 1
    · cases h0 : (intAt (tk5 ts i) 0 == x)
      all_goals
        have hp : (aP ts x) i = _ := (by unfold aP; rw [h0])
        simp only [Int.toNat_natCast, d, ei, h5, hz5, he, a1, a2 c, c, hp, h0, u32s_size, Nat.mul_one, whL_succ, List.length_append, List.length_cons, List.length_nil, u32s_app, decide_true, beqT, beqF, Bool.not_true, Bool.not_false, Bool.or_true, Bool.or_false, Bool.true_or, Bool.false_or, Bool.true_and, Bool.false_and, Bool.and_true, Bool.and_false, true_implies, Bool.true_eq_false, Bool.false_eq_true, false_implies, and_true, and_false, true_and, if_true, if_false, aZ_d0_ok, aS_d0_ok, aZ_d0_ok, aS_d0_ok]
        repeat' first | exact hbk | exact htk.r | exact htk.b | exact htk.t | exact htk.m | exact htk.a | exact trivial | exact rfl | omega | apply And.intro
    · simp only [Int.toNat_natCast, d, ei, h5, hz5, he, a1, c, u32s_size, Nat.mul_one, whL_succ, List.length_append, List.length_cons, List.length_nil, u32s_app, decide_false, beqT, beqF, Bool.not_true, Bool.not_false, true_implies, Bool.true_eq_false, Bool.false_eq_true, false_implies, and_true, true_and, false_and, if_false, aZ_d0_ok, aS_d0_ok, aZ_d0_ok, aS_d0_ok]
      repeat' first | exact hbk | exact trivial | exact rfl | omega | apply And.intro
theorem aZ_s (h : TsOk ts) (hne : (whL (bkT ts) (aP ts x) 16) ≠ []) : ∀ (k i : Nat), i + k = 16 → whL (bkT ts) (aP ts x) i = [] → Good Try.prog (freshR (whL (bkT ts) (aP ts x) 16).length (u32s (whL (bkT ts) (aP ts x) 16))) 3 (aZ_F ts x (i : Int)) (aZ_M ts x (i : Int)) := by
  intro k
  induction k with
  | zero =>
    intro i hi he
    obtain rfl : i = 16 := by omega
    exact absurd he hne
  | succ k ih =>
    intro i hi hne0
    refine past_vc EH2_ok 1000 (a2 ts x (i : Int) (whL (bkT ts) (aP ts x) 16).length (u32s (whL (bkT ts) (aP ts x) 16)) (fun i' => i' = ((i + 1 : Nat) : Int) ∧ whL (bkT ts) (aP ts x) (i + 1) = []) (fun i' k' c' => i' = ((i + 1 : Nat) : Int) ∧ k' = (whL (bkT ts) (aP ts x) (i + 1)).length ∧ c' = u32s (whL (bkT ts) (aP ts x) (i + 1)))) ?_ (fun _ _ h => h)
      (fun fs m hb' => aZS_good (fun i' ⟨e1, e2⟩ => by rw [e1]; exact ih (i + 1) (by omega) e2) (fun i' k' c' ⟨e1, e2, e3⟩ => by rw [e1, e2, e3]; exact aS_ok h k (i + 1) (by omega)) hb')
    have d : decide ((i : Int) < 16) = true := decide_eq_true (by omega)
    have ei : ari .add .i64 (i : Int) 1 = ((i + 1 : Nat) : Int) := by rw [ari_add, i64_in' (by omega) (by omega)]; omega
    obtain ⟨a1, a2⟩ := at_t h.bk (i := i) (by omega)
    have htk := h.tk i (by omega)
    have h5 : (ts.extract 64 144).extract (i * 5) (i * 5 + 5) = tk5 ts i := rfl
    have hz5 := tk5_size h.sz (i := i) (by omega)
    have hsz := h.sz
    have he : (ts.extract 64 144).size = 80 := by rw [Array.size_extract]; omega
    have hbk : BkOk (ts.extract 0 64) := h.bk
    by_cases c : kindAt (bkT ts) i = 1
    · cases h0 : (intAt (tk5 ts i) 0 == x)
      all_goals
        have hp : (aP ts x) i = _ := (by unfold aP; rw [h0])
        simp only [Int.toNat_natCast, d, ei, h5, hz5, he, a1, a2 c, c, hp, h0, hne0, whL_succ, List.nil_append, List.length_cons, List.length_nil, decide_true, beqT, beqF, Bool.not_true, Bool.not_false, Bool.or_true, Bool.or_false, Bool.true_or, Bool.false_or, Bool.true_and, Bool.false_and, Bool.and_true, Bool.and_false, true_implies, Bool.true_eq_false, Bool.false_eq_true, false_implies, and_true, and_false, true_and, if_true, if_false, aZ_d0_ok, aS_d0_ok, aZ_d0_ok, aS_d0_ok]
        repeat' first | exact hbk | exact htk.r | exact htk.b | exact htk.t | exact htk.m | exact htk.a | exact trivial | exact rfl | omega | apply And.intro
    · simp only [Int.toNat_natCast, d, ei, h5, hz5, he, a1, c, hne0, whL_succ, List.nil_append, List.length_cons, List.length_nil, decide_false, beqT, beqF, Bool.not_true, Bool.not_false, true_implies, Bool.true_eq_false, Bool.false_eq_true, false_implies, and_true, true_and, false_and, if_false, aZ_d0_ok, aS_d0_ok, aZ_d0_ok, aS_d0_ok]
      repeat' first | exact hbk | exact trivial | exact rfl | omega | apply And.intro
theorem aN_ok (h : TsOk ts) (hne : (whL (bkT ts) (aP ts x) 16) = []) : ∀ (k i : Nat), i + k = 16 → Good Try.prog nilR 3 (aZ_F ts x (i : Int)) (aZ_M ts x (i : Int)) := by
  intro k
  induction k with
  | zero =>
    intro i hi
    obtain rfl : i = 16 := by omega
    refine past_vc EH2_ok 1000 (a1 ts x ((16 : Nat) : Int) (fun _ => False) (fun _ _ _ => False)) ?_ (fun _ _ h => h) (fun fs m hb => aZS_good (fun _ h => h.elim) (fun _ _ _ h => h.elim) hb)
    have d : decide (((16 : Nat) : Int) < 16) = false := rfl
    simp only [d, true_implies, Bool.true_eq_false, Bool.false_eq_true, false_implies, and_true, true_and]
  | succ k ih =>
    intro i hi
    refine past_vc EH2_ok 1000 (a1 ts x (i : Int) (fun i' => i' = ((i + 1 : Nat) : Int)) (fun i' k' c' => i' = ((i + 1 : Nat) : Int) ∧ whL (bkT ts) (aP ts x) (i + 1) ≠ [])) ?_ (fun _ _ h => h)
      (fun fs m hb' => aZS_good (fun i' e1 => by rw [e1]; exact ih (i + 1) (by omega)) (fun i' k' c' ⟨_, e⟩ => absurd (whL_pre (by omega) hne) e) hb')
    have d : decide ((i : Int) < 16) = true := decide_eq_true (by omega)
    have ei : ari .add .i64 (i : Int) 1 = ((i + 1 : Nat) : Int) := by rw [ari_add, i64_in' (by omega) (by omega)]; omega
    obtain ⟨a1, a2⟩ := at_t h.bk (i := i) (by omega)
    have hn1 : ∀ (l : List Int) (v : Int), (l ++ [v] ≠ []) = True := fun l v => by simp
    have htk := h.tk i (by omega)
    have h5 : (ts.extract 64 144).extract (i * 5) (i * 5 + 5) = tk5 ts i := rfl
    have hz5 := tk5_size h.sz (i := i) (by omega)
    have hsz := h.sz
    have he : (ts.extract 64 144).size = 80 := by rw [Array.size_extract]; omega
    have hbk : BkOk (ts.extract 0 64) := h.bk
    by_cases c : kindAt (bkT ts) i = 1
    · cases h0 : (intAt (tk5 ts i) 0 == x)
      all_goals
        have hp : (aP ts x) i = _ := (by unfold aP; rw [h0])
        simp only [Int.toNat_natCast, d, ei, h5, hz5, he, a1, a2 c, c, hp, h0, whL_succ, hn1, decide_true, beqT, beqF, Bool.not_true, Bool.not_false, Bool.or_true, Bool.or_false, Bool.true_or, Bool.false_or, Bool.true_and, Bool.false_and, Bool.and_true, Bool.and_false, true_implies, Bool.true_eq_false, Bool.false_eq_true, false_implies, and_true, and_false, true_and, if_true, if_false, aZ_d0_ok, aS_d0_ok, aZ_d0_ok, aS_d0_ok]
        repeat' first | exact hbk | exact htk.r | exact htk.b | exact htk.t | exact htk.m | exact htk.a | exact trivial | exact rfl | omega | apply And.intro
    · simp only [Int.toNat_natCast, d, ei, h5, hz5, he, a1, c, whL_succ, hn1, decide_false, beqT, beqF, Bool.not_true, Bool.not_false, true_implies, Bool.true_eq_false, Bool.false_eq_true, false_implies, and_true, true_and, false_and, if_false, aZ_d0_ok, aS_d0_ok, aZ_d0_ok, aS_d0_ok]
      repeat' first | exact hbk | exact trivial | exact rfl | omega | apply And.intro
theorem a_mem {q : Nat} {b : SBlk} (hb : getB (aM x).bl q = some b) : (q = 0 ∧ b = ⟨.ls [.f (.int .u32 (.o x))], 30, false⟩) := by
  have hb : (mkBl [(0, ⟨.ls [.f (.int .u32 (.o x))], 30, false⟩)]).get q = some b := hb
  unfold mkBl at hb
  simp only [List.foldl, Tr.get_set, Tr.get_nil] at hb
  split at hb
  · rename_i e; cases hb; exact ⟨e, rfl⟩
  · cases hb
theorem a_con {m : SMem} {i : Nat} {n0 : SI} {w0 : Bool} (hb0 : getB m.bl i = some ⟨.ls [.f (.int .u32 n0)], 30, w0⟩) : Con E0 27 [tkS ts, .s (.c (.fn (.func 39) [] [.ptr i (.l 0)]))] m (.need [TsOk ts] (rowT (whL (bkT ts) (aP ts n0.den) 16) 30 m)) := by
  have hm : ∀ q b, getB (aM n0.den).bl q = some b → q < (aM n0.den).next ∧ b.wr = false ∧ ∃ d, getB m.bl ((fun q => i) q) = some d ∧ b.ty = d.ty ∧ ∀ R cs, d.arr.okM R cs → b.arr.okM (pull (fun q => i) (aM n0.den).next R) cs := by
    intro q b hb
    rcases a_mem hb with ⟨rfl, rfl⟩
    · exact ⟨(show 0 < 3 by decide), rfl, _, hb0, rfl, fun R cs' h => box_i h⟩
  have hl : ∀ R vs, All2 (SV.ok R) [tkS ts, .s (.c (.fn (.func 39) [] [.ptr i (.l 0)]))] vs → All2 (SV.ok (pull (fun q => i) (aM n0.den).next R)) [tkS ts, aC] vs := by
    intro R vs ha
    match vs, ha with
    | [u, v], ha =>
      obtain ⟨h0, ⟨a, b, e, h1, h2⟩, _⟩ := ha
      refine ⟨h0, ⟨a, b, e, any_nil h1, ?_⟩, trivial⟩
      revert h2
      generalize b.toList = l
      intro h2
      match l, h2 with
      | [c0], ⟨q0, _⟩ => exact ⟨(let ⟨g, e1, e2⟩ := q0; ⟨g, (by unfold pull; exact e1), e2⟩), trivial⟩
  refine Con.asked fun hq => ?_
  have h : TsOk ts := hq _ (List.mem_singleton.2 rfl)
  refine Con.two (fun hz => ?_) (fun hz => ?_)
  · have he : (whL (bkT ts) (aP ts n0.den) 16) = [] := List.eq_nil_of_length_eq_zero (of_decide_eq_true hz)
    refine Con.readV (q := []) E0_ok fn27 body27 rfl _ hm hl (A := nilR) (fun _ => run_vc EH2_ok 1000 (a0_vc ts n0.den (fun i => i = ((0 : Nat) : Int))) ?_ (fun s m h => h.elim) fun fs m hb => a0_go (fun i e => by rw [e]; exact aN_ok h he 16 0 (by omega)) hb) ?_
    · have hsz := h.sz
      simp only [and_true, true_and, aZ_d0_ok, aZ_d0_ok]
      repeat' first | exact rfl | omega | apply And.intro
    · intro s m' R R' v hs hv
      unfold nilR at hs
      split at hs
      · exact hv
      · exact hs.elim
  · have he : (whL (bkT ts) (aP ts n0.den) 16) ≠ [] := fun e => by
      have := of_decide_eq_false hz
      rw [e] at this
      exact this rfl
    refine Con.readN (q := []) E0_ok fn27 body27 rfl _ hm hl rfl fun _ => (run_vc EH2_ok 1000 (a0_vc ts n0.den (fun i => i = ((0 : Nat) : Int))) ?_ (fun s m h => h.elim) fun fs m hb => a0_go (A := freshR (whL (bkT ts) (aP ts n0.den) 16).length (u32s (whL (bkT ts) (aP ts n0.den) 16))) (fun i e => by rw [e]; exact aZ_s h he 16 0 (by omega) rfl) hb).mono ?_
    · have hsz := h.sz
      simp only [and_true, true_and, aZ_d0_ok, aZ_d0_ok]
      repeat' first | exact rfl | omega | apply And.intro
    · intro s m' hs
      unfold freshR at hs
      split at hs
      · rename_i id nn
        split at hs
        · rename_i ds ty hb
          obtain ⟨h1, rfl, rfl, rfl⟩ := hs
          exact ⟨id, Nat.le_of_ble_eq_true h1, rfl, hb⟩
        · exact hs.elim
      · exact hs.elim
def bP (ts : Array Value) (x : Int) (i : Nat) : Bool := intAt (tk5 ts i) 2 == x
theorem bZS_good {A : SV → SMem → Prop} {QZ : Int → Prop} {QS : Int → Nat → Array Value → Prop} {fs : List SFr} {m : SMem} (hz : ∀ i, QZ i → Good Try.prog A 3 (bZ_F ts x i) (bZ_M ts x i)) (hs : ∀ i k cs, QS i k cs → Good Try.prog A 3 (bS_F ts x i k cs) (bS_M ts x i k cs)) (hb : bZS ts x QZ QS fs m) : Good Try.prog A 3 fs m := by
  unfold bZS at hb
  split at hb
  · split at hb
    · exact bS_good hs hb
    · exact bZ_good hz hb
  · exact hb.elim
theorem bS_ok (h : TsOk ts) : ∀ (k i : Nat), i + k = 16 → Good Try.prog (freshR (whL (bkT ts) (bP ts x) 16).length (u32s (whL (bkT ts) (bP ts x) 16))) 3 (bS_F ts x (i : Int) (whL (bkT ts) (bP ts x) i).length (u32s (whL (bkT ts) (bP ts x) i))) (bS_M ts x (i : Int) (whL (bkT ts) (bP ts x) i).length (u32s (whL (bkT ts) (bP ts x) i))) := by
  intro k
  induction k with
  | zero =>
    intro i hi
    obtain rfl : i = 16 := by omega
    refine past_vc EH2_ok 1000 (b3 ts x ((16 : Nat) : Int) _ _ (whL (bkT ts) (bP ts x) 16).length (u32s (whL (bkT ts) (bP ts x) 16)) (fun _ _ _ => False)) ?_ (fun _ _ h => h) (fun fs m hb => bS_good (fun _ _ _ h => h.elim) hb)
    have d : decide (((16 : Nat) : Int) < 16) = false := rfl
    simp only [d, true_implies, Bool.true_eq_false, Bool.false_eq_true, false_implies, and_true, true_and]
  | succ k ih =>
    intro i hi
    refine past_vc EH2_ok 1000 (b3 ts x (i : Int) _ _ (whL (bkT ts) (bP ts x) 16).length (u32s (whL (bkT ts) (bP ts x) 16)) (fun i' k' c' => i' = ((i + 1 : Nat) : Int) ∧ k' = (whL (bkT ts) (bP ts x) (i + 1)).length ∧ c' = u32s (whL (bkT ts) (bP ts x) (i + 1)))) ?_ (fun _ _ h => h)
      (fun fs m hb => bS_good (fun i' k' c' ⟨e1, e2, e3⟩ => by rw [e1, e2, e3]; exact ih (i + 1) (by omega)) hb)
    have d : decide ((i : Int) < 16) = true := decide_eq_true (by omega)
    have ei : ari .add .i64 (i : Int) 1 = ((i + 1 : Nat) : Int) := by rw [ari_add, i64_in' (by omega) (by omega)]; omega
    obtain ⟨a1, a2⟩ := at_t h.bk (i := i) (by omega)
    have hle := whL_le (bs := bkT ts) (p := (bP ts x)) i
    have htk := h.tk i (by omega)
    have h5 : (ts.extract 64 144).extract (i * 5) (i * 5 + 5) = tk5 ts i := rfl
    have hz5 := tk5_size h.sz (i := i) (by omega)
    have hsz := h.sz
    have he : (ts.extract 64 144).size = 80 := by rw [Array.size_extract]; omega
    have hbk : BkOk (ts.extract 0 64) := h.bk
    by_cases c : kindAt (bkT ts) i = 1
    · cases h0 : (intAt (tk5 ts i) 2 == x)
      all_goals
        have hp : (bP ts x) i = _ := (by unfold bP; rw [h0])
        simp only [Int.toNat_natCast, d, ei, h5, hz5, he, u8_wrap htk.ht, a1, a2 c, c, hp, h0, u32s_size, Nat.mul_one, whL_succ, List.length_append, List.length_cons, List.length_nil, u32s_app, decide_true, beqT, beqF, Bool.not_true, Bool.not_false, Bool.or_true, Bool.or_false, Bool.true_or, Bool.false_or, Bool.true_and, Bool.false_and, Bool.and_true, Bool.and_false, true_implies, Bool.true_eq_false, Bool.false_eq_true, false_implies, and_true, and_false, true_and, if_true, if_false, aZ_d0_ok, aS_d0_ok, bZ_d0_ok, bS_d0_ok]
        repeat' first | exact hbk | exact htk.r | exact htk.b | exact htk.t | exact htk.m | exact htk.a | exact trivial | exact rfl | omega | apply And.intro
    · simp only [Int.toNat_natCast, d, ei, h5, hz5, he, a1, c, u32s_size, Nat.mul_one, whL_succ, List.length_append, List.length_cons, List.length_nil, u32s_app, decide_false, beqT, beqF, Bool.not_true, Bool.not_false, true_implies, Bool.true_eq_false, Bool.false_eq_true, false_implies, and_true, true_and, false_and, if_false, aZ_d0_ok, aS_d0_ok, bZ_d0_ok, bS_d0_ok]
      repeat' first | exact hbk | exact trivial | exact rfl | omega | apply And.intro
theorem bZ_s (h : TsOk ts) (hne : (whL (bkT ts) (bP ts x) 16) ≠ []) : ∀ (k i : Nat), i + k = 16 → whL (bkT ts) (bP ts x) i = [] → Good Try.prog (freshR (whL (bkT ts) (bP ts x) 16).length (u32s (whL (bkT ts) (bP ts x) 16))) 3 (bZ_F ts x (i : Int)) (bZ_M ts x (i : Int)) := by
  intro k
  induction k with
  | zero =>
    intro i hi he
    obtain rfl : i = 16 := by omega
    exact absurd he hne
  | succ k ih =>
    intro i hi hne0
    refine past_vc EH2_ok 1000 (b2 ts x (i : Int) (whL (bkT ts) (bP ts x) 16).length (u32s (whL (bkT ts) (bP ts x) 16)) (fun i' => i' = ((i + 1 : Nat) : Int) ∧ whL (bkT ts) (bP ts x) (i + 1) = []) (fun i' k' c' => i' = ((i + 1 : Nat) : Int) ∧ k' = (whL (bkT ts) (bP ts x) (i + 1)).length ∧ c' = u32s (whL (bkT ts) (bP ts x) (i + 1)))) ?_ (fun _ _ h => h)
      (fun fs m hb' => bZS_good (fun i' ⟨e1, e2⟩ => by rw [e1]; exact ih (i + 1) (by omega) e2) (fun i' k' c' ⟨e1, e2, e3⟩ => by rw [e1, e2, e3]; exact bS_ok h k (i + 1) (by omega)) hb')
    have d : decide ((i : Int) < 16) = true := decide_eq_true (by omega)
    have ei : ari .add .i64 (i : Int) 1 = ((i + 1 : Nat) : Int) := by rw [ari_add, i64_in' (by omega) (by omega)]; omega
    obtain ⟨a1, a2⟩ := at_t h.bk (i := i) (by omega)
    have htk := h.tk i (by omega)
    have h5 : (ts.extract 64 144).extract (i * 5) (i * 5 + 5) = tk5 ts i := rfl
    have hz5 := tk5_size h.sz (i := i) (by omega)
    have hsz := h.sz
    have he : (ts.extract 64 144).size = 80 := by rw [Array.size_extract]; omega
    have hbk : BkOk (ts.extract 0 64) := h.bk
    by_cases c : kindAt (bkT ts) i = 1
    · cases h0 : (intAt (tk5 ts i) 2 == x)
      all_goals
        have hp : (bP ts x) i = _ := (by unfold bP; rw [h0])
        simp only [Int.toNat_natCast, d, ei, h5, hz5, he, u8_wrap htk.ht, a1, a2 c, c, hp, h0, hne0, whL_succ, List.nil_append, List.length_cons, List.length_nil, decide_true, beqT, beqF, Bool.not_true, Bool.not_false, Bool.or_true, Bool.or_false, Bool.true_or, Bool.false_or, Bool.true_and, Bool.false_and, Bool.and_true, Bool.and_false, true_implies, Bool.true_eq_false, Bool.false_eq_true, false_implies, and_true, and_false, true_and, if_true, if_false, aZ_d0_ok, aS_d0_ok, bZ_d0_ok, bS_d0_ok]
        repeat' first | exact hbk | exact htk.r | exact htk.b | exact htk.t | exact htk.m | exact htk.a | exact trivial | exact rfl | omega | apply And.intro
    · simp only [Int.toNat_natCast, d, ei, h5, hz5, he, a1, c, hne0, whL_succ, List.nil_append, List.length_cons, List.length_nil, decide_false, beqT, beqF, Bool.not_true, Bool.not_false, true_implies, Bool.true_eq_false, Bool.false_eq_true, false_implies, and_true, true_and, false_and, if_false, aZ_d0_ok, aS_d0_ok, bZ_d0_ok, bS_d0_ok]
      repeat' first | exact hbk | exact trivial | exact rfl | omega | apply And.intro
theorem bN_ok (h : TsOk ts) (hne : (whL (bkT ts) (bP ts x) 16) = []) : ∀ (k i : Nat), i + k = 16 → Good Try.prog nilR 3 (bZ_F ts x (i : Int)) (bZ_M ts x (i : Int)) := by
  intro k
  induction k with
  | zero =>
    intro i hi
    obtain rfl : i = 16 := by omega
    refine past_vc EH2_ok 1000 (b1 ts x ((16 : Nat) : Int) (fun _ => False) (fun _ _ _ => False)) ?_ (fun _ _ h => h) (fun fs m hb => bZS_good (fun _ h => h.elim) (fun _ _ _ h => h.elim) hb)
    have d : decide (((16 : Nat) : Int) < 16) = false := rfl
    simp only [d, true_implies, Bool.true_eq_false, Bool.false_eq_true, false_implies, and_true, true_and]
  | succ k ih =>
    intro i hi
    refine past_vc EH2_ok 1000 (b1 ts x (i : Int) (fun i' => i' = ((i + 1 : Nat) : Int)) (fun i' k' c' => i' = ((i + 1 : Nat) : Int) ∧ whL (bkT ts) (bP ts x) (i + 1) ≠ [])) ?_ (fun _ _ h => h)
      (fun fs m hb' => bZS_good (fun i' e1 => by rw [e1]; exact ih (i + 1) (by omega)) (fun i' k' c' ⟨_, e⟩ => absurd (whL_pre (by omega) hne) e) hb')
    have d : decide ((i : Int) < 16) = true := decide_eq_true (by omega)
    have ei : ari .add .i64 (i : Int) 1 = ((i + 1 : Nat) : Int) := by rw [ari_add, i64_in' (by omega) (by omega)]; omega
    obtain ⟨a1, a2⟩ := at_t h.bk (i := i) (by omega)
    have hn1 : ∀ (l : List Int) (v : Int), (l ++ [v] ≠ []) = True := fun l v => by simp
    have htk := h.tk i (by omega)
    have h5 : (ts.extract 64 144).extract (i * 5) (i * 5 + 5) = tk5 ts i := rfl
    have hz5 := tk5_size h.sz (i := i) (by omega)
    have hsz := h.sz
    have he : (ts.extract 64 144).size = 80 := by rw [Array.size_extract]; omega
    have hbk : BkOk (ts.extract 0 64) := h.bk
    by_cases c : kindAt (bkT ts) i = 1
    · cases h0 : (intAt (tk5 ts i) 2 == x)
      all_goals
        have hp : (bP ts x) i = _ := (by unfold bP; rw [h0])
        simp only [Int.toNat_natCast, d, ei, h5, hz5, he, u8_wrap htk.ht, a1, a2 c, c, hp, h0, whL_succ, hn1, decide_true, beqT, beqF, Bool.not_true, Bool.not_false, Bool.or_true, Bool.or_false, Bool.true_or, Bool.false_or, Bool.true_and, Bool.false_and, Bool.and_true, Bool.and_false, true_implies, Bool.true_eq_false, Bool.false_eq_true, false_implies, and_true, and_false, true_and, if_true, if_false, aZ_d0_ok, aS_d0_ok, bZ_d0_ok, bS_d0_ok]
        repeat' first | exact hbk | exact htk.r | exact htk.b | exact htk.t | exact htk.m | exact htk.a | exact trivial | exact rfl | omega | apply And.intro
    · simp only [Int.toNat_natCast, d, ei, h5, hz5, he, a1, c, whL_succ, hn1, decide_false, beqT, beqF, Bool.not_true, Bool.not_false, true_implies, Bool.true_eq_false, Bool.false_eq_true, false_implies, and_true, true_and, false_and, if_false, aZ_d0_ok, aS_d0_ok, bZ_d0_ok, bS_d0_ok]
      repeat' first | exact hbk | exact trivial | exact rfl | omega | apply And.intro
theorem b_mem {q : Nat} {b : SBlk} (hb : getB (bM x).bl q = some b) : (q = 0 ∧ b = ⟨.ls [.f (.int .i64 (.o x))], 3, false⟩) := by
  have hb : (mkBl [(0, ⟨.ls [.f (.int .i64 (.o x))], 3, false⟩)]).get q = some b := hb
  unfold mkBl at hb
  simp only [List.foldl, Tr.get_set, Tr.get_nil] at hb
  split at hb
  · rename_i e; cases hb; exact ⟨e, rfl⟩
  · cases hb
theorem b_con {m : SMem} {i : Nat} {n0 : SI} {w0 : Bool} (hb0 : getB m.bl i = some ⟨.ls [.f (.int .i64 n0)], 3, w0⟩) : Con E0 27 [tkS ts, .s (.c (.fn (.func 38) [] [.ptr i (.l 0)]))] m (.need [TsOk ts] (rowT (whL (bkT ts) (bP ts n0.den) 16) 30 m)) := by
  have hm : ∀ q b, getB (bM n0.den).bl q = some b → q < (bM n0.den).next ∧ b.wr = false ∧ ∃ d, getB m.bl ((fun q => i) q) = some d ∧ b.ty = d.ty ∧ ∀ R cs, d.arr.okM R cs → b.arr.okM (pull (fun q => i) (bM n0.den).next R) cs := by
    intro q b hb
    rcases b_mem hb with ⟨rfl, rfl⟩
    · exact ⟨(show 0 < 3 by decide), rfl, _, hb0, rfl, fun R cs' h => box_i h⟩
  have hl : ∀ R vs, All2 (SV.ok R) [tkS ts, .s (.c (.fn (.func 38) [] [.ptr i (.l 0)]))] vs → All2 (SV.ok (pull (fun q => i) (bM n0.den).next R)) [tkS ts, bC] vs := by
    intro R vs ha
    match vs, ha with
    | [u, v], ha =>
      obtain ⟨h0, ⟨a, b, e, h1, h2⟩, _⟩ := ha
      refine ⟨h0, ⟨a, b, e, any_nil h1, ?_⟩, trivial⟩
      revert h2
      generalize b.toList = l
      intro h2
      match l, h2 with
      | [c0], ⟨q0, _⟩ => exact ⟨(let ⟨g, e1, e2⟩ := q0; ⟨g, (by unfold pull; exact e1), e2⟩), trivial⟩
  refine Con.asked fun hq => ?_
  have h : TsOk ts := hq _ (List.mem_singleton.2 rfl)
  refine Con.two (fun hz => ?_) (fun hz => ?_)
  · have he : (whL (bkT ts) (bP ts n0.den) 16) = [] := List.eq_nil_of_length_eq_zero (of_decide_eq_true hz)
    refine Con.readV (q := []) E0_ok fn27 body27 rfl _ hm hl (A := nilR) (fun _ => run_vc EH2_ok 1000 (b0_vc ts n0.den (fun i => i = ((0 : Nat) : Int))) ?_ (fun s m h => h.elim) fun fs m hb => b0_go (fun i e => by rw [e]; exact bN_ok h he 16 0 (by omega)) hb) ?_
    · have hsz := h.sz
      simp only [and_true, true_and, aZ_d0_ok, bZ_d0_ok]
      repeat' first | exact rfl | omega | apply And.intro
    · intro s m' R R' v hs hv
      unfold nilR at hs
      split at hs
      · exact hv
      · exact hs.elim
  · have he : (whL (bkT ts) (bP ts n0.den) 16) ≠ [] := fun e => by
      have := of_decide_eq_false hz
      rw [e] at this
      exact this rfl
    refine Con.readN (q := []) E0_ok fn27 body27 rfl _ hm hl rfl fun _ => (run_vc EH2_ok 1000 (b0_vc ts n0.den (fun i => i = ((0 : Nat) : Int))) ?_ (fun s m h => h.elim) fun fs m hb => b0_go (A := freshR (whL (bkT ts) (bP ts n0.den) 16).length (u32s (whL (bkT ts) (bP ts n0.den) 16))) (fun i e => by rw [e]; exact bZ_s h he 16 0 (by omega) rfl) hb).mono ?_
    · have hsz := h.sz
      simp only [and_true, true_and, aZ_d0_ok, bZ_d0_ok]
      repeat' first | exact rfl | omega | apply And.intro
    · intro s m' hs
      unfold freshR at hs
      split at hs
      · rename_i id nn
        split at hs
        · rename_i ds ty hb
          obtain ⟨h1, rfl, rfl, rfl⟩ := hs
          exact ⟨id, Nat.le_of_ble_eq_true h1, rfl, hb⟩
        · exact hs.elim
      · exact hs.elim
def cP (ts : Array Value) (x : Int) (i : Nat) : Bool := intAt (tk5 ts i) 4 == x
theorem cZS_good {A : SV → SMem → Prop} {QZ : Int → Prop} {QS : Int → Nat → Array Value → Prop} {fs : List SFr} {m : SMem} (hz : ∀ i, QZ i → Good Try.prog A 3 (cZ_F ts x i) (cZ_M ts x i)) (hs : ∀ i k cs, QS i k cs → Good Try.prog A 3 (cS_F ts x i k cs) (cS_M ts x i k cs)) (hb : cZS ts x QZ QS fs m) : Good Try.prog A 3 fs m := by
  unfold cZS at hb
  split at hb
  · split at hb
    · exact cS_good hs hb
    · exact cZ_good hz hb
  · exact hb.elim
theorem cS_ok (h : TsOk ts) : ∀ (k i : Nat), i + k = 16 → Good Try.prog (freshR (whL (bkT ts) (cP ts x) 16).length (u32s (whL (bkT ts) (cP ts x) 16))) 3 (cS_F ts x (i : Int) (whL (bkT ts) (cP ts x) i).length (u32s (whL (bkT ts) (cP ts x) i))) (cS_M ts x (i : Int) (whL (bkT ts) (cP ts x) i).length (u32s (whL (bkT ts) (cP ts x) i))) := by
  intro k
  induction k with
  | zero =>
    intro i hi
    obtain rfl : i = 16 := by omega
    refine past_vc EH2_ok 1000 (c3 ts x ((16 : Nat) : Int) _ _ (whL (bkT ts) (cP ts x) 16).length (u32s (whL (bkT ts) (cP ts x) 16)) (fun _ _ _ => False)) ?_ (fun _ _ h => h) (fun fs m hb => cS_good (fun _ _ _ h => h.elim) hb)
    have d : decide (((16 : Nat) : Int) < 16) = false := rfl
    simp only [d, true_implies, Bool.true_eq_false, Bool.false_eq_true, false_implies, and_true, true_and]
  | succ k ih =>
    intro i hi
    refine past_vc EH2_ok 1000 (c3 ts x (i : Int) _ _ (whL (bkT ts) (cP ts x) 16).length (u32s (whL (bkT ts) (cP ts x) 16)) (fun i' k' c' => i' = ((i + 1 : Nat) : Int) ∧ k' = (whL (bkT ts) (cP ts x) (i + 1)).length ∧ c' = u32s (whL (bkT ts) (cP ts x) (i + 1)))) ?_ (fun _ _ h => h)
      (fun fs m hb => cS_good (fun i' k' c' ⟨e1, e2, e3⟩ => by rw [e1, e2, e3]; exact ih (i + 1) (by omega)) hb)
    have d : decide ((i : Int) < 16) = true := decide_eq_true (by omega)
    have ei : ari .add .i64 (i : Int) 1 = ((i + 1 : Nat) : Int) := by rw [ari_add, i64_in' (by omega) (by omega)]; omega
    obtain ⟨a1, a2⟩ := at_t h.bk (i := i) (by omega)
    have hle := whL_le (bs := bkT ts) (p := (cP ts x)) i
    have htk := h.tk i (by omega)
    have h5 : (ts.extract 64 144).extract (i * 5) (i * 5 + 5) = tk5 ts i := rfl
    have hz5 := tk5_size h.sz (i := i) (by omega)
    have hsz := h.sz
    have he : (ts.extract 64 144).size = 80 := by rw [Array.size_extract]; omega
    have hbk : BkOk (ts.extract 0 64) := h.bk
    by_cases c : kindAt (bkT ts) i = 1
    · cases h0 : (intAt (tk5 ts i) 4 == x)
      all_goals
        have hp : (cP ts x) i = _ := (by unfold cP; rw [h0])
        simp only [Int.toNat_natCast, d, ei, h5, hz5, he, a1, a2 c, c, hp, h0, u32s_size, Nat.mul_one, whL_succ, List.length_append, List.length_cons, List.length_nil, u32s_app, decide_true, beqT, beqF, Bool.not_true, Bool.not_false, Bool.or_true, Bool.or_false, Bool.true_or, Bool.false_or, Bool.true_and, Bool.false_and, Bool.and_true, Bool.and_false, true_implies, Bool.true_eq_false, Bool.false_eq_true, false_implies, and_true, and_false, true_and, if_true, if_false, aZ_d0_ok, aS_d0_ok, cZ_d0_ok, cS_d0_ok]
        repeat' first | exact hbk | exact htk.r | exact htk.b | exact htk.t | exact htk.m | exact htk.a | exact trivial | exact rfl | omega | apply And.intro
    · simp only [Int.toNat_natCast, d, ei, h5, hz5, he, a1, c, u32s_size, Nat.mul_one, whL_succ, List.length_append, List.length_cons, List.length_nil, u32s_app, decide_false, beqT, beqF, Bool.not_true, Bool.not_false, true_implies, Bool.true_eq_false, Bool.false_eq_true, false_implies, and_true, true_and, false_and, if_false, aZ_d0_ok, aS_d0_ok, cZ_d0_ok, cS_d0_ok]
      repeat' first | exact hbk | exact trivial | exact rfl | omega | apply And.intro
theorem cZ_s (h : TsOk ts) (hne : (whL (bkT ts) (cP ts x) 16) ≠ []) : ∀ (k i : Nat), i + k = 16 → whL (bkT ts) (cP ts x) i = [] → Good Try.prog (freshR (whL (bkT ts) (cP ts x) 16).length (u32s (whL (bkT ts) (cP ts x) 16))) 3 (cZ_F ts x (i : Int)) (cZ_M ts x (i : Int)) := by
  intro k
  induction k with
  | zero =>
    intro i hi he
    obtain rfl : i = 16 := by omega
    exact absurd he hne
  | succ k ih =>
    intro i hi hne0
    refine past_vc EH2_ok 1000 (c2 ts x (i : Int) (whL (bkT ts) (cP ts x) 16).length (u32s (whL (bkT ts) (cP ts x) 16)) (fun i' => i' = ((i + 1 : Nat) : Int) ∧ whL (bkT ts) (cP ts x) (i + 1) = []) (fun i' k' c' => i' = ((i + 1 : Nat) : Int) ∧ k' = (whL (bkT ts) (cP ts x) (i + 1)).length ∧ c' = u32s (whL (bkT ts) (cP ts x) (i + 1)))) ?_ (fun _ _ h => h)
      (fun fs m hb' => cZS_good (fun i' ⟨e1, e2⟩ => by rw [e1]; exact ih (i + 1) (by omega) e2) (fun i' k' c' ⟨e1, e2, e3⟩ => by rw [e1, e2, e3]; exact cS_ok h k (i + 1) (by omega)) hb')
    have d : decide ((i : Int) < 16) = true := decide_eq_true (by omega)
    have ei : ari .add .i64 (i : Int) 1 = ((i + 1 : Nat) : Int) := by rw [ari_add, i64_in' (by omega) (by omega)]; omega
    obtain ⟨a1, a2⟩ := at_t h.bk (i := i) (by omega)
    have htk := h.tk i (by omega)
    have h5 : (ts.extract 64 144).extract (i * 5) (i * 5 + 5) = tk5 ts i := rfl
    have hz5 := tk5_size h.sz (i := i) (by omega)
    have hsz := h.sz
    have he : (ts.extract 64 144).size = 80 := by rw [Array.size_extract]; omega
    have hbk : BkOk (ts.extract 0 64) := h.bk
    by_cases c : kindAt (bkT ts) i = 1
    · cases h0 : (intAt (tk5 ts i) 4 == x)
      all_goals
        have hp : (cP ts x) i = _ := (by unfold cP; rw [h0])
        simp only [Int.toNat_natCast, d, ei, h5, hz5, he, a1, a2 c, c, hp, h0, hne0, whL_succ, List.nil_append, List.length_cons, List.length_nil, decide_true, beqT, beqF, Bool.not_true, Bool.not_false, Bool.or_true, Bool.or_false, Bool.true_or, Bool.false_or, Bool.true_and, Bool.false_and, Bool.and_true, Bool.and_false, true_implies, Bool.true_eq_false, Bool.false_eq_true, false_implies, and_true, and_false, true_and, if_true, if_false, aZ_d0_ok, aS_d0_ok, cZ_d0_ok, cS_d0_ok]
        repeat' first | exact hbk | exact htk.r | exact htk.b | exact htk.t | exact htk.m | exact htk.a | exact trivial | exact rfl | omega | apply And.intro
    · simp only [Int.toNat_natCast, d, ei, h5, hz5, he, a1, c, hne0, whL_succ, List.nil_append, List.length_cons, List.length_nil, decide_false, beqT, beqF, Bool.not_true, Bool.not_false, true_implies, Bool.true_eq_false, Bool.false_eq_true, false_implies, and_true, true_and, false_and, if_false, aZ_d0_ok, aS_d0_ok, cZ_d0_ok, cS_d0_ok]
      repeat' first | exact hbk | exact trivial | exact rfl | omega | apply And.intro
theorem cN_ok (h : TsOk ts) (hne : (whL (bkT ts) (cP ts x) 16) = []) : ∀ (k i : Nat), i + k = 16 → Good Try.prog nilR 3 (cZ_F ts x (i : Int)) (cZ_M ts x (i : Int)) := by
  intro k
  induction k with
  | zero =>
    intro i hi
    obtain rfl : i = 16 := by omega
    refine past_vc EH2_ok 1000 (c1 ts x ((16 : Nat) : Int) (fun _ => False) (fun _ _ _ => False)) ?_ (fun _ _ h => h) (fun fs m hb => cZS_good (fun _ h => h.elim) (fun _ _ _ h => h.elim) hb)
    have d : decide (((16 : Nat) : Int) < 16) = false := rfl
    simp only [d, true_implies, Bool.true_eq_false, Bool.false_eq_true, false_implies, and_true, true_and]
  | succ k ih =>
    intro i hi
    refine past_vc EH2_ok 1000 (c1 ts x (i : Int) (fun i' => i' = ((i + 1 : Nat) : Int)) (fun i' k' c' => i' = ((i + 1 : Nat) : Int) ∧ whL (bkT ts) (cP ts x) (i + 1) ≠ [])) ?_ (fun _ _ h => h)
      (fun fs m hb' => cZS_good (fun i' e1 => by rw [e1]; exact ih (i + 1) (by omega)) (fun i' k' c' ⟨_, e⟩ => absurd (whL_pre (by omega) hne) e) hb')
    have d : decide ((i : Int) < 16) = true := decide_eq_true (by omega)
    have ei : ari .add .i64 (i : Int) 1 = ((i + 1 : Nat) : Int) := by rw [ari_add, i64_in' (by omega) (by omega)]; omega
    obtain ⟨a1, a2⟩ := at_t h.bk (i := i) (by omega)
    have hn1 : ∀ (l : List Int) (v : Int), (l ++ [v] ≠ []) = True := fun l v => by simp
    have htk := h.tk i (by omega)
    have h5 : (ts.extract 64 144).extract (i * 5) (i * 5 + 5) = tk5 ts i := rfl
    have hz5 := tk5_size h.sz (i := i) (by omega)
    have hsz := h.sz
    have he : (ts.extract 64 144).size = 80 := by rw [Array.size_extract]; omega
    have hbk : BkOk (ts.extract 0 64) := h.bk
    by_cases c : kindAt (bkT ts) i = 1
    · cases h0 : (intAt (tk5 ts i) 4 == x)
      all_goals
        have hp : (cP ts x) i = _ := (by unfold cP; rw [h0])
        simp only [Int.toNat_natCast, d, ei, h5, hz5, he, a1, a2 c, c, hp, h0, whL_succ, hn1, decide_true, beqT, beqF, Bool.not_true, Bool.not_false, Bool.or_true, Bool.or_false, Bool.true_or, Bool.false_or, Bool.true_and, Bool.false_and, Bool.and_true, Bool.and_false, true_implies, Bool.true_eq_false, Bool.false_eq_true, false_implies, and_true, and_false, true_and, if_true, if_false, aZ_d0_ok, aS_d0_ok, cZ_d0_ok, cS_d0_ok]
        repeat' first | exact hbk | exact htk.r | exact htk.b | exact htk.t | exact htk.m | exact htk.a | exact trivial | exact rfl | omega | apply And.intro
    · simp only [Int.toNat_natCast, d, ei, h5, hz5, he, a1, c, whL_succ, hn1, decide_false, beqT, beqF, Bool.not_true, Bool.not_false, true_implies, Bool.true_eq_false, Bool.false_eq_true, false_implies, and_true, true_and, false_and, if_false, aZ_d0_ok, aS_d0_ok, cZ_d0_ok, cS_d0_ok]
      repeat' first | exact hbk | exact trivial | exact rfl | omega | apply And.intro
theorem c_mem {q : Nat} {b : SBlk} (hb : getB (cM x).bl q = some b) : (q = 0 ∧ b = ⟨.ls [.f (.int .u32 (.o x))], 30, false⟩) := by
  have hb : (mkBl [(0, ⟨.ls [.f (.int .u32 (.o x))], 30, false⟩)]).get q = some b := hb
  unfold mkBl at hb
  simp only [List.foldl, Tr.get_set, Tr.get_nil] at hb
  split at hb
  · rename_i e; cases hb; exact ⟨e, rfl⟩
  · cases hb
theorem c_con {m : SMem} {i : Nat} {n0 : SI} {w0 : Bool} (hb0 : getB m.bl i = some ⟨.ls [.f (.int .u32 n0)], 30, w0⟩) : Con E0 27 [tkS ts, .s (.c (.fn (.func 28) [] [.ptr i (.l 0)]))] m (.need [TsOk ts] (rowT (whL (bkT ts) (cP ts n0.den) 16) 30 m)) := by
  have hm : ∀ q b, getB (cM n0.den).bl q = some b → q < (cM n0.den).next ∧ b.wr = false ∧ ∃ d, getB m.bl ((fun q => i) q) = some d ∧ b.ty = d.ty ∧ ∀ R cs, d.arr.okM R cs → b.arr.okM (pull (fun q => i) (cM n0.den).next R) cs := by
    intro q b hb
    rcases c_mem hb with ⟨rfl, rfl⟩
    · exact ⟨(show 0 < 3 by decide), rfl, _, hb0, rfl, fun R cs' h => box_i h⟩
  have hl : ∀ R vs, All2 (SV.ok R) [tkS ts, .s (.c (.fn (.func 28) [] [.ptr i (.l 0)]))] vs → All2 (SV.ok (pull (fun q => i) (cM n0.den).next R)) [tkS ts, cC] vs := by
    intro R vs ha
    match vs, ha with
    | [u, v], ha =>
      obtain ⟨h0, ⟨a, b, e, h1, h2⟩, _⟩ := ha
      refine ⟨h0, ⟨a, b, e, any_nil h1, ?_⟩, trivial⟩
      revert h2
      generalize b.toList = l
      intro h2
      match l, h2 with
      | [c0], ⟨q0, _⟩ => exact ⟨(let ⟨g, e1, e2⟩ := q0; ⟨g, (by unfold pull; exact e1), e2⟩), trivial⟩
  refine Con.asked fun hq => ?_
  have h : TsOk ts := hq _ (List.mem_singleton.2 rfl)
  refine Con.two (fun hz => ?_) (fun hz => ?_)
  · have he : (whL (bkT ts) (cP ts n0.den) 16) = [] := List.eq_nil_of_length_eq_zero (of_decide_eq_true hz)
    refine Con.readV (q := []) E0_ok fn27 body27 rfl _ hm hl (A := nilR) (fun _ => run_vc EH2_ok 1000 (c0_vc ts n0.den (fun i => i = ((0 : Nat) : Int))) ?_ (fun s m h => h.elim) fun fs m hb => c0_go (fun i e => by rw [e]; exact cN_ok h he 16 0 (by omega)) hb) ?_
    · have hsz := h.sz
      simp only [and_true, true_and, aZ_d0_ok, cZ_d0_ok]
      repeat' first | exact rfl | omega | apply And.intro
    · intro s m' R R' v hs hv
      unfold nilR at hs
      split at hs
      · exact hv
      · exact hs.elim
  · have he : (whL (bkT ts) (cP ts n0.den) 16) ≠ [] := fun e => by
      have := of_decide_eq_false hz
      rw [e] at this
      exact this rfl
    refine Con.readN (q := []) E0_ok fn27 body27 rfl _ hm hl rfl fun _ => (run_vc EH2_ok 1000 (c0_vc ts n0.den (fun i => i = ((0 : Nat) : Int))) ?_ (fun s m h => h.elim) fun fs m hb => c0_go (A := freshR (whL (bkT ts) (cP ts n0.den) 16).length (u32s (whL (bkT ts) (cP ts n0.den) 16))) (fun i e => by rw [e]; exact cZ_s h he 16 0 (by omega) rfl) hb).mono ?_
    · have hsz := h.sz
      simp only [and_true, true_and, aZ_d0_ok, cZ_d0_ok]
      repeat' first | exact rfl | omega | apply And.intro
    · intro s m' hs
      unfold freshR at hs
      split at hs
      · rename_i id nn
        split at hs
        · rename_i ds ty hb
          obtain ⟨h1, rfl, rfl, rfl⟩ := hs
          exact ⟨id, Nat.le_of_ble_eq_true h1, rfl, hb⟩
        · exact hs.elim
      · exact hs.elim
def dP (ts : Array Value) (x : Int) (y : Int) (z : Bool) (i : Nat) : Bool := (intAt (tk5 ts i) 0 == x) && ((intAt (tk5 ts i) 4 == y) && (boolAt (tk5 ts i) 3 || !z))
theorem dZS_good {A : SV → SMem → Prop} {QZ : Int → Prop} {QS : Int → Nat → Array Value → Prop} {fs : List SFr} {m : SMem} (hz : ∀ i, QZ i → Good Try.prog A 3 (dZ_F ts x y z i) (dZ_M ts x y z i)) (hs : ∀ i k cs, QS i k cs → Good Try.prog A 3 (dS_F ts x y z i k cs) (dS_M ts x y z i k cs)) (hb : dZS ts x y z QZ QS fs m) : Good Try.prog A 3 fs m := by
  unfold dZS at hb
  split at hb
  · split at hb
    · exact dS_good hs hb
    · exact dZ_good hz hb
  · exact hb.elim
theorem dS_ok (h : TsOk ts) : ∀ (k i : Nat), i + k = 16 → Good Try.prog (freshR (whL (bkT ts) (dP ts x y z) 16).length (u32s (whL (bkT ts) (dP ts x y z) 16))) 3 (dS_F ts x y z (i : Int) (whL (bkT ts) (dP ts x y z) i).length (u32s (whL (bkT ts) (dP ts x y z) i))) (dS_M ts x y z (i : Int) (whL (bkT ts) (dP ts x y z) i).length (u32s (whL (bkT ts) (dP ts x y z) i))) := by
  intro k
  induction k with
  | zero =>
    intro i hi
    obtain rfl : i = 16 := by omega
    refine past_vc EH2_ok 1000 (d3 ts x y z ((16 : Nat) : Int) _ _ (whL (bkT ts) (dP ts x y z) 16).length (u32s (whL (bkT ts) (dP ts x y z) 16)) (fun _ _ _ => False)) ?_ (fun _ _ h => h) (fun fs m hb => dS_good (fun _ _ _ h => h.elim) hb)
    have d : decide (((16 : Nat) : Int) < 16) = false := rfl
    simp only [d, true_implies, Bool.true_eq_false, Bool.false_eq_true, false_implies, and_true, true_and]
  | succ k ih =>
    intro i hi
    refine past_vc EH2_ok 1000 (d3 ts x y z (i : Int) _ _ (whL (bkT ts) (dP ts x y z) 16).length (u32s (whL (bkT ts) (dP ts x y z) 16)) (fun i' k' c' => i' = ((i + 1 : Nat) : Int) ∧ k' = (whL (bkT ts) (dP ts x y z) (i + 1)).length ∧ c' = u32s (whL (bkT ts) (dP ts x y z) (i + 1)))) ?_ (fun _ _ h => h)
      (fun fs m hb => dS_good (fun i' k' c' ⟨e1, e2, e3⟩ => by rw [e1, e2, e3]; exact ih (i + 1) (by omega)) hb)
    have d : decide ((i : Int) < 16) = true := decide_eq_true (by omega)
    have ei : ari .add .i64 (i : Int) 1 = ((i + 1 : Nat) : Int) := by rw [ari_add, i64_in' (by omega) (by omega)]; omega
    obtain ⟨a1, a2⟩ := at_t h.bk (i := i) (by omega)
    have hle := whL_le (bs := bkT ts) (p := (dP ts x y z)) i
    have htk := h.tk i (by omega)
    have h5 : (ts.extract 64 144).extract (i * 5) (i * 5 + 5) = tk5 ts i := rfl
    have hz5 := tk5_size h.sz (i := i) (by omega)
    have hsz := h.sz
    have he : (ts.extract 64 144).size = 80 := by rw [Array.size_extract]; omega
    have hbk : BkOk (ts.extract 0 64) := h.bk
    by_cases c : kindAt (bkT ts) i = 1
    · cases h0 : (intAt (tk5 ts i) 0 == x) <;> cases h1 : (intAt (tk5 ts i) 4 == y) <;> cases h2 : boolAt (tk5 ts i) 3 <;> cases h3 : (!z)
      all_goals
        have hp : (dP ts x y z) i = _ := (by unfold dP; rw [h0, h1, h2, h3])
        simp only [Int.toNat_natCast, d, ei, h5, hz5, he, a1, a2 c, c, hp, h0, h1, h2, h3, u32s_size, Nat.mul_one, whL_succ, List.length_append, List.length_cons, List.length_nil, u32s_app, decide_true, beqT, beqF, Bool.not_true, Bool.not_false, Bool.or_true, Bool.or_false, Bool.true_or, Bool.false_or, Bool.true_and, Bool.false_and, Bool.and_true, Bool.and_false, true_implies, Bool.true_eq_false, Bool.false_eq_true, false_implies, and_true, and_false, true_and, if_true, if_false, aZ_d0_ok, aS_d0_ok, dZ_d0_ok, dS_d0_ok]
        repeat' first | exact hbk | exact htk.r | exact htk.b | exact htk.t | exact htk.m | exact htk.a | exact trivial | exact rfl | omega | apply And.intro
    · simp only [Int.toNat_natCast, d, ei, h5, hz5, he, a1, c, u32s_size, Nat.mul_one, whL_succ, List.length_append, List.length_cons, List.length_nil, u32s_app, decide_false, beqT, beqF, Bool.not_true, Bool.not_false, true_implies, Bool.true_eq_false, Bool.false_eq_true, false_implies, and_true, true_and, false_and, if_false, aZ_d0_ok, aS_d0_ok, dZ_d0_ok, dS_d0_ok]
      repeat' first | exact hbk | exact trivial | exact rfl | omega | apply And.intro
theorem dZ_s (h : TsOk ts) (hne : (whL (bkT ts) (dP ts x y z) 16) ≠ []) : ∀ (k i : Nat), i + k = 16 → whL (bkT ts) (dP ts x y z) i = [] → Good Try.prog (freshR (whL (bkT ts) (dP ts x y z) 16).length (u32s (whL (bkT ts) (dP ts x y z) 16))) 3 (dZ_F ts x y z (i : Int)) (dZ_M ts x y z (i : Int)) := by
  intro k
  induction k with
  | zero =>
    intro i hi he
    obtain rfl : i = 16 := by omega
    exact absurd he hne
  | succ k ih =>
    intro i hi hne0
    refine past_vc EH2_ok 1000 (d2 ts x y z (i : Int) (whL (bkT ts) (dP ts x y z) 16).length (u32s (whL (bkT ts) (dP ts x y z) 16)) (fun i' => i' = ((i + 1 : Nat) : Int) ∧ whL (bkT ts) (dP ts x y z) (i + 1) = []) (fun i' k' c' => i' = ((i + 1 : Nat) : Int) ∧ k' = (whL (bkT ts) (dP ts x y z) (i + 1)).length ∧ c' = u32s (whL (bkT ts) (dP ts x y z) (i + 1)))) ?_ (fun _ _ h => h)
      (fun fs m hb' => dZS_good (fun i' ⟨e1, e2⟩ => by rw [e1]; exact ih (i + 1) (by omega) e2) (fun i' k' c' ⟨e1, e2, e3⟩ => by rw [e1, e2, e3]; exact dS_ok h k (i + 1) (by omega)) hb')
    have d : decide ((i : Int) < 16) = true := decide_eq_true (by omega)
    have ei : ari .add .i64 (i : Int) 1 = ((i + 1 : Nat) : Int) := by rw [ari_add, i64_in' (by omega) (by omega)]; omega
    obtain ⟨a1, a2⟩ := at_t h.bk (i := i) (by omega)
    have htk := h.tk i (by omega)
    have h5 : (ts.extract 64 144).extract (i * 5) (i * 5 + 5) = tk5 ts i := rfl
    have hz5 := tk5_size h.sz (i := i) (by omega)
    have hsz := h.sz
    have he : (ts.extract 64 144).size = 80 := by rw [Array.size_extract]; omega
    have hbk : BkOk (ts.extract 0 64) := h.bk
    by_cases c : kindAt (bkT ts) i = 1
    · cases h0 : (intAt (tk5 ts i) 0 == x) <;> cases h1 : (intAt (tk5 ts i) 4 == y) <;> cases h2 : boolAt (tk5 ts i) 3 <;> cases h3 : (!z)
      all_goals
        have hp : (dP ts x y z) i = _ := (by unfold dP; rw [h0, h1, h2, h3])
        simp only [Int.toNat_natCast, d, ei, h5, hz5, he, a1, a2 c, c, hp, h0, h1, h2, h3, hne0, whL_succ, List.nil_append, List.length_cons, List.length_nil, decide_true, beqT, beqF, Bool.not_true, Bool.not_false, Bool.or_true, Bool.or_false, Bool.true_or, Bool.false_or, Bool.true_and, Bool.false_and, Bool.and_true, Bool.and_false, true_implies, Bool.true_eq_false, Bool.false_eq_true, false_implies, and_true, and_false, true_and, if_true, if_false, aZ_d0_ok, aS_d0_ok, dZ_d0_ok, dS_d0_ok]
        repeat' first | exact hbk | exact htk.r | exact htk.b | exact htk.t | exact htk.m | exact htk.a | exact trivial | exact rfl | omega | apply And.intro
    · simp only [Int.toNat_natCast, d, ei, h5, hz5, he, a1, c, hne0, whL_succ, List.nil_append, List.length_cons, List.length_nil, decide_false, beqT, beqF, Bool.not_true, Bool.not_false, true_implies, Bool.true_eq_false, Bool.false_eq_true, false_implies, and_true, true_and, false_and, if_false, aZ_d0_ok, aS_d0_ok, dZ_d0_ok, dS_d0_ok]
      repeat' first | exact hbk | exact trivial | exact rfl | omega | apply And.intro
theorem dN_ok (h : TsOk ts) (hne : (whL (bkT ts) (dP ts x y z) 16) = []) : ∀ (k i : Nat), i + k = 16 → Good Try.prog nilR 3 (dZ_F ts x y z (i : Int)) (dZ_M ts x y z (i : Int)) := by
  intro k
  induction k with
  | zero =>
    intro i hi
    obtain rfl : i = 16 := by omega
    refine past_vc EH2_ok 1000 (d1 ts x y z ((16 : Nat) : Int) (fun _ => False) (fun _ _ _ => False)) ?_ (fun _ _ h => h) (fun fs m hb => dZS_good (fun _ h => h.elim) (fun _ _ _ h => h.elim) hb)
    have d : decide (((16 : Nat) : Int) < 16) = false := rfl
    simp only [d, true_implies, Bool.true_eq_false, Bool.false_eq_true, false_implies, and_true, true_and]
  | succ k ih =>
    intro i hi
    refine past_vc EH2_ok 1000 (d1 ts x y z (i : Int) (fun i' => i' = ((i + 1 : Nat) : Int)) (fun i' k' c' => i' = ((i + 1 : Nat) : Int) ∧ whL (bkT ts) (dP ts x y z) (i + 1) ≠ [])) ?_ (fun _ _ h => h)
      (fun fs m hb' => dZS_good (fun i' e1 => by rw [e1]; exact ih (i + 1) (by omega)) (fun i' k' c' ⟨_, e⟩ => absurd (whL_pre (by omega) hne) e) hb')
    have d : decide ((i : Int) < 16) = true := decide_eq_true (by omega)
    have ei : ari .add .i64 (i : Int) 1 = ((i + 1 : Nat) : Int) := by rw [ari_add, i64_in' (by omega) (by omega)]; omega
    obtain ⟨a1, a2⟩ := at_t h.bk (i := i) (by omega)
    have hn1 : ∀ (l : List Int) (v : Int), (l ++ [v] ≠ []) = True := fun l v => by simp
    have htk := h.tk i (by omega)
    have h5 : (ts.extract 64 144).extract (i * 5) (i * 5 + 5) = tk5 ts i := rfl
    have hz5 := tk5_size h.sz (i := i) (by omega)
    have hsz := h.sz
    have he : (ts.extract 64 144).size = 80 := by rw [Array.size_extract]; omega
    have hbk : BkOk (ts.extract 0 64) := h.bk
    by_cases c : kindAt (bkT ts) i = 1
    · cases h0 : (intAt (tk5 ts i) 0 == x) <;> cases h1 : (intAt (tk5 ts i) 4 == y) <;> cases h2 : boolAt (tk5 ts i) 3 <;> cases h3 : (!z)
      all_goals
        have hp : (dP ts x y z) i = _ := (by unfold dP; rw [h0, h1, h2, h3])
        simp only [Int.toNat_natCast, d, ei, h5, hz5, he, a1, a2 c, c, hp, h0, h1, h2, h3, whL_succ, hn1, decide_true, beqT, beqF, Bool.not_true, Bool.not_false, Bool.or_true, Bool.or_false, Bool.true_or, Bool.false_or, Bool.true_and, Bool.false_and, Bool.and_true, Bool.and_false, true_implies, Bool.true_eq_false, Bool.false_eq_true, false_implies, and_true, and_false, true_and, if_true, if_false, aZ_d0_ok, aS_d0_ok, dZ_d0_ok, dS_d0_ok]
        repeat' first | exact hbk | exact htk.r | exact htk.b | exact htk.t | exact htk.m | exact htk.a | exact trivial | exact rfl | omega | apply And.intro
    · simp only [Int.toNat_natCast, d, ei, h5, hz5, he, a1, c, whL_succ, hn1, decide_false, beqT, beqF, Bool.not_true, Bool.not_false, true_implies, Bool.true_eq_false, Bool.false_eq_true, false_implies, and_true, true_and, false_and, if_false, aZ_d0_ok, aS_d0_ok, dZ_d0_ok, dS_d0_ok]
      repeat' first | exact hbk | exact trivial | exact rfl | omega | apply And.intro
theorem d_mem {q : Nat} {b : SBlk} (hb : getB (dM x y z).bl q = some b) : (q = 0 ∧ b = ⟨.ls [.f (.int .u32 (.o x))], 30, false⟩) ∨ (q = 1 ∧ b = ⟨.ls [.f (.int .u32 (.o y))], 30, false⟩) ∨ (q = 2 ∧ b = ⟨.ls [.f (.bool (.o z))], 4, false⟩) := by
  have hb : (mkBl [(0, ⟨.ls [.f (.int .u32 (.o x))], 30, false⟩), (1, ⟨.ls [.f (.int .u32 (.o y))], 30, false⟩), (2, ⟨.ls [.f (.bool (.o z))], 4, false⟩)]).get q = some b := hb
  unfold mkBl at hb
  simp only [List.foldl, Tr.get_set, Tr.get_nil] at hb
  split at hb
  · rename_i e; cases hb; exact .inr (.inr ⟨e, rfl⟩)
  · split at hb
    · rename_i e; cases hb; exact .inr (.inl ⟨e, rfl⟩)
    · split at hb
      · rename_i e; cases hb; exact .inl ⟨e, rfl⟩
      · cases hb
theorem d_con {m : SMem} {i j k : Nat} {n0 : SI} {w0 : Bool} (hb0 : getB m.bl i = some ⟨.ls [.f (.int .u32 n0)], 30, w0⟩) {n1 : SI} {w1 : Bool} (hb1 : getB m.bl j = some ⟨.ls [.f (.int .u32 n1)], 30, w1⟩) {n2 : SB} {w2 : Bool} (hb2 : getB m.bl k = some ⟨.ls [.f (.bool n2)], 4, w2⟩) : Con E0 27 [tkS ts, .s (.c (.fn (.func 46) [] [.ptr i (.l 0), .ptr j (.l 0), .ptr k (.l 0)]))] m (.need [TsOk ts] (rowT (whL (bkT ts) (dP ts n0.den n1.den n2.den) 16) 30 m)) := by
  have hm : ∀ q b, getB (dM n0.den n1.den n2.den).bl q = some b → q < (dM n0.den n1.den n2.den).next ∧ b.wr = false ∧ ∃ d, getB m.bl ((fun q => if q = 0 then i else if q = 1 then j else k) q) = some d ∧ b.ty = d.ty ∧ ∀ R cs, d.arr.okM R cs → b.arr.okM (pull (fun q => if q = 0 then i else if q = 1 then j else k) (dM n0.den n1.den n2.den).next R) cs := by
    intro q b hb
    rcases d_mem hb with ⟨rfl, rfl⟩|⟨rfl, rfl⟩|⟨rfl, rfl⟩
    · exact ⟨(show 0 < 3 by decide), rfl, _, hb0, rfl, fun R cs' h => box_i h⟩
    · exact ⟨(show 1 < 3 by decide), rfl, _, hb1, rfl, fun R cs' h => box_i h⟩
    · exact ⟨(show 2 < 3 by decide), rfl, _, hb2, rfl, fun R cs' h => box_b h⟩
  have hl : ∀ R vs, All2 (SV.ok R) [tkS ts, .s (.c (.fn (.func 46) [] [.ptr i (.l 0), .ptr j (.l 0), .ptr k (.l 0)]))] vs → All2 (SV.ok (pull (fun q => if q = 0 then i else if q = 1 then j else k) (dM n0.den n1.den n2.den).next R)) [tkS ts, dC] vs := by
    intro R vs ha
    match vs, ha with
    | [u, v], ha =>
      obtain ⟨h0, ⟨a, b, e, h1, h2⟩, _⟩ := ha
      refine ⟨h0, ⟨a, b, e, any_nil h1, ?_⟩, trivial⟩
      revert h2
      generalize b.toList = l
      intro h2
      match l, h2 with
      | [c0, c1, c2], ⟨q0, q1, q2, _⟩ => exact ⟨(let ⟨g, e1, e2⟩ := q0; ⟨g, (by unfold pull; exact e1), e2⟩), (let ⟨g, e1, e2⟩ := q1; ⟨g, (by unfold pull; exact e1), e2⟩), (let ⟨g, e1, e2⟩ := q2; ⟨g, (by unfold pull; exact e1), e2⟩), trivial⟩
  refine Con.asked fun hq => ?_
  have h : TsOk ts := hq _ (List.mem_singleton.2 rfl)
  refine Con.two (fun hz => ?_) (fun hz => ?_)
  · have he : (whL (bkT ts) (dP ts n0.den n1.den n2.den) 16) = [] := List.eq_nil_of_length_eq_zero (of_decide_eq_true hz)
    refine Con.readV (q := []) E0_ok fn27 body27 rfl _ hm hl (A := nilR) (fun _ => run_vc EH2_ok 1000 (d0_vc ts n0.den n1.den n2.den (fun i => i = ((0 : Nat) : Int))) ?_ (fun s m h => h.elim) fun fs m hb => d0_go (fun i e => by rw [e]; exact dN_ok h he 16 0 (by omega)) hb) ?_
    · have hsz := h.sz
      simp only [and_true, true_and, aZ_d0_ok, dZ_d0_ok]
      repeat' first | exact rfl | omega | apply And.intro
    · intro s m' R R' v hs hv
      unfold nilR at hs
      split at hs
      · exact hv
      · exact hs.elim
  · have he : (whL (bkT ts) (dP ts n0.den n1.den n2.den) 16) ≠ [] := fun e => by
      have := of_decide_eq_false hz
      rw [e] at this
      exact this rfl
    refine Con.readN (q := []) E0_ok fn27 body27 rfl _ hm hl rfl fun _ => (run_vc EH2_ok 1000 (d0_vc ts n0.den n1.den n2.den (fun i => i = ((0 : Nat) : Int))) ?_ (fun s m h => h.elim) fun fs m hb => d0_go (A := freshR (whL (bkT ts) (dP ts n0.den n1.den n2.den) 16).length (u32s (whL (bkT ts) (dP ts n0.den n1.den n2.den) 16))) (fun i e => by rw [e]; exact dZ_s h he 16 0 (by omega) rfl) hb).mono ?_
    · have hsz := h.sz
      simp only [and_true, true_and, aZ_d0_ok, dZ_d0_ok]
      repeat' first | exact rfl | omega | apply And.intro
    · intro s m' hs
      unfold freshR at hs
      split at hs
      · rename_i id nn
        split at hs
        · rename_i ds ty hb
          obtain ⟨h1, rfl, rfl, rfl⟩ := hs
          exact ⟨id, Nat.le_of_ble_eq_true h1, rfl, hb⟩
        · exact hs.elim
      · exact hs.elim
end
end Go.Proofs.Ytnjmockpdmchcaa
/- Of token: what reads tokens, and without: states and runs. No condition. -/
namespace Go.Proofs.Ytnjmockpdmchcaa
set_option linter.unusedVariables false
noncomputable def rdBx (m : SMem) (i : Nat) : Option SC := match getB m.bl i with | some ⟨.ls [x], _, _⟩ => some x | _ => none
noncomputable def conT1 (g : FuncId) (l : List SV) (m : SMem) : Option Tree := match g, l with
  | 35, [.s (.c (.f (.int .u32 h)))] => some (.need [inH h.den] (.ret (ibT (slotI h.den) (slotOk h.den)) m))
  | 25, [.s (.agg (.op bs)), .s (.c (.f (.int .u32 h)))] => some (.need [BkOk bs, inH h.den] (.ret (sB (.o (goodB bs h.den))) m))
  | 43, [.s (.agg (.op bs)), .s (.c (.f (.int .i64 i)))] => some (.need [BkOk bs] (.ret (hbT (atI bs i.den) (atOk bs i.den)) m))
  | 44, [.s (.agg (.op bs)), .s (.c (.f (.int .u32 h)))] => some (.need [BkOk bs, inH h.den] (.ret (bbT (voidB bs h.den) (goodB bs h.den)) m))
  | 34, [.s (.agg (.op bs))] => some (.need [BkOk bs] (.ret (bhbT (issueB bs) (issueI bs) (issueOk bs)) m))
  | 29, [.s (.agg (.op bs))] => some (.need [BkOk bs] (rowT (issued bs) 30 m))
  | 27, [.s (.agg (.op ts)), .s (.c (.fn (.func 39) [] [.ptr i (.l 0)]))] => (match getB m.bl i with | some ⟨.ls [.f (.int .u32 x)], 30, _⟩ => some (.need [TsOk ts] (rowT (whL (bkT ts) (aP ts x.den) 16) 30 m)) | _ => none)
  | 27, [.s (.agg (.op ts)), .s (.c (.fn (.func 38) [] [.ptr i (.l 0)]))] => (match getB m.bl i with | some ⟨.ls [.f (.int .i64 x)], 3, _⟩ => some (.need [TsOk ts] (rowT (whL (bkT ts) (bP ts x.den) 16) 30 m)) | _ => none)
  | 27, [.s (.agg (.op ts)), .s (.c (.fn (.func 28) [] [.ptr i (.l 0)]))] => (match getB m.bl i with | some ⟨.ls [.f (.int .u32 x)], 30, _⟩ => some (.need [TsOk ts] (rowT (whL (bkT ts) (cP ts x.den) 16) 30 m)) | _ => none)
  | 27, [.s (.agg (.op ts)), .s (.c (.fn (.func 46) [] [.ptr i (.l 0), .ptr j (.l 0), .ptr k (.l 0)]))] => (match getB m.bl i, getB m.bl j, getB m.bl k with | some ⟨.ls [.f (.int .u32 x)], 30, _⟩, some ⟨.ls [.f (.int .u32 y)], 30, _⟩, some ⟨.ls [.f (.bool z)], 4, _⟩ => some (.need [TsOk ts] (rowT (whL (bkT ts) (dP ts x.den y.den z.den) 16) 30 m)) | _, _, _ => none)
  | _, _ => none
noncomputable def ET : Env := ⟨Try.prog, fnOf, conT1, haltAt [30002]⟩
noncomputable def EU : Env := ⟨Try.prog, fnOf, conT1, haltAt [999000]⟩
noncomputable def tokS (r b t : Int) (m : Bool) (a : Int) : SV := .s (.agg (.ls [.f (.int .u32 (.o r)), .f (.int .u8 (.o b)), .f (.int .u8 (.o t)), .f (.bool (.o m)), .f (.int .u32 (.o a))]))
noncomputable def rwS (k : Nat) : SV := .s (.c (.f (.slice 0 (.l 0) (.o k) (.full 1))))
noncomputable def wL_d0 : List SIt := sekF Try.f30 2
noncomputable def wL_F (k : Nat) (rs : Array Value) (i : Int) (ts : Array Value) (zz : Array Value) : List SFr := [frOf 30 Try.f30 [(2, ptr 1 (.l 0)), (4, ptr 2 (.l 0)), (9, rwS k), (10, i64 (.o (k : Int))), (11, i64 (.o i))] wL_d0]
noncomputable def wL_M (k : Nat) (rs : Array Value) (i : Int) (ts : Array Value) (zz : Array Value) : SMem := mkM 3 [(0, ⟨.pop rs, 30, false⟩), (1, ⟨.op ts, 35, true⟩), (2, ⟨.op zz, 35, true⟩)]
noncomputable def wL_n (k : Nat) (rs : Array Value) (Q : Int → Array Value → Array Value → Prop) (fs : List SFr) (m : SMem) : Prop := (match frNth fs 0 with | some f0 => (match rdI f0 11 with | some i => (match rdP f0 2 with | some p1 => (match rdP f0 4 with | some p2 => (match rdA m p1 with | some ts => (match rdA m p2 with | some zz => Q i ts zz ∧ subOk 1 [(1, p1), (2, p2)] (wL_F k rs i ts zz) (wL_M k rs i ts zz) fs m | none => False) | none => False) | none => False) | none => False) | none => False) | none => False)
noncomputable def rwM (rs : Array Value) : SMem := mkM 1 [(0, ⟨.pop rs, 30, false⟩)]
noncomputable def w0_t (ts : Array Value) (k : Nat) (rs : Array Value) : Tree := run ET 1000 1 [callFr 30 Try.f30.ntmps [tkS ts, rwS k] (Try.f30.body.getD .skip)] (rwM rs)
noncomputable def w0_x (ts : Array Value) (k : Nat) (rs : Array Value) (QwL : Int → Array Value → Array Value → Prop) (fs : List SFr) (m : SMem) : Prop := wL_n k rs QwL fs m
theorem wL_d0_ok (r : Nat → Option Nat) : TodoOk r wL_d0 wL_d0 := TodoOk.it (by kernel_rfl)
theorem wL_good {A : SV → SMem → Prop} {k : Nat} {rs : Array Value} {Q : Int → Array Value → Array Value → Prop} {fs : List SFr} {m : SMem} (H : ∀ i ts zz, Q i ts zz → Good Try.prog A 1 (wL_F k rs i ts zz) (wL_M k rs i ts zz)) (hb : wL_n k rs Q fs m) : Good Try.prog A 1 fs m := by
  unfold wL_n at hb
  split at hb
  rotate_left
  · exact hb.elim
  split at hb
  rotate_left
  · exact hb.elim
  split at hb
  rotate_left
  · exact hb.elim
  split at hb
  rotate_left
  · exact hb.elim
  split at hb
  rotate_left
  · exact hb.elim
  split at hb
  rotate_left
  · exact hb.elim
  exact Good.of_sub hb.2 (H _ _ _ hb.1)
theorem w0_go {A : SV → SMem → Prop} {ts : Array Value} {k : Nat} {rs : Array Value} {QwL : Int → Array Value → Array Value → Prop} {fs : List SFr} {m : SMem} (hwL : ∀ i' ts' zz', QwL i' ts' zz' → Good Try.prog A 1 (wL_F k rs i' ts' zz') (wL_M k rs i' ts' zz')) (hb : w0_x ts k rs QwL fs m) : Good Try.prog A 1 fs m := by
  unfold w0_x at hb
  exact wL_good hwL hb
end Go.Proofs.Ytnjmockpdmchcaa
/- Of token: what reads tokens, and without: states and runs. -/
namespace Go.Proofs.Ytnjmockpdmchcaa
set_option maxRecDepth 100000
theorem w0_vc (ts : Array Value) (k : Nat) (rs : Array Value) (QwL : Int → Array Value → Array Value → Prop) : (w0_t ts k rs).vc ((fun _ _ => False)) (w0_x ts k rs QwL) =
    (QwL (0 : Int) ts #[Value.int IntKind.u32 (0 : Int), Value.int IntKind.u8 (0 : Int), Value.int IntKind.u32 (0 : Int), Value.int IntKind.u8 (0 : Int), Value.int IntKind.u32 (0 : Int), Value.int IntKind.u8 (0 : Int), Value.int IntKind.u32 (0 : Int), Value.int IntKind.u8 (0 : Int), Value.int IntKind.u32 (0 : Int), Value.int IntKind.u8 (0 : Int), Value.int IntKind.u32 (0 : Int), Value.int IntKind.u8 (0 : Int), Value.int IntKind.u32 (0 : Int), Value.int IntKind.u8 (0 : Int), Value.int IntKind.u32 (0 : Int), Value.int IntKind.u8 (0 : Int), Value.int IntKind.u32 (0 : Int), Value.int IntKind.u8 (0 : Int), Value.int IntKind.u32 (0 : Int), Value.int IntKind.u8 (0 : Int), Value.int IntKind.u32 (0 : Int), Value.int IntKind.u8 (0 : Int), Value.int IntKind.u32 (0 : Int), Value.int IntKind.u8 (0 : Int), Value.int IntKind.u32 (0 : Int), Value.int IntKind.u8 (0 : Int), Value.int IntKind.u32 (0 : Int), Value.int IntKind.u8 (0 : Int), Value.int IntKind.u32 (0 : Int), Value.int IntKind.u8 (0 : Int), Value.int IntKind.u32 (0 : Int), Value.int IntKind.u8 (0 : Int), Value.int IntKind.u32 (0 : Int), Value.int IntKind.u8 (0 : Int), Value.int IntKind.u32 (0 : Int), Value.int IntKind.u8 (0 : Int), Value.int IntKind.u32 (0 : Int), Value.int IntKind.u8 (0 : Int), Value.int IntKind.u32 (0 : Int), Value.int IntKind.u8 (0 : Int), Value.int IntKind.u32 (0 : Int), Value.int IntKind.u8 (0 : Int), Value.int IntKind.u32 (0 : Int), Value.int IntKind.u8 (0 : Int), Value.int IntKind.u32 (0 : Int), Value.int IntKind.u8 (0 : Int), Value.int IntKind.u32 (0 : Int), Value.int IntKind.u8 (0 : Int), Value.int IntKind.u32 (0 : Int), Value.int IntKind.u8 (0 : Int), Value.int IntKind.u32 (0 : Int), Value.int IntKind.u8 (0 : Int), Value.int IntKind.u32 (0 : Int), Value.int IntKind.u8 (0 : Int), Value.int IntKind.u32 (0 : Int), Value.int IntKind.u8 (0 : Int), Value.int IntKind.u32 (0 : Int), Value.int IntKind.u8 (0 : Int), Value.int IntKind.u32 (0 : Int), Value.int IntKind.u8 (0 : Int), Value.int IntKind.u32 (0 : Int), Value.int IntKind.u8 (0 : Int), Value.int IntKind.u32 (0 : Int), Value.int IntKind.u8 (0 : Int), Value.int IntKind.u32 (0 : Int), Value.int IntKind.u8 (0 : Int), Value.int IntKind.u8 (0 : Int), Value.bool false, Value.int IntKind.u32 (0 : Int), Value.int IntKind.u32 (0 : Int), Value.int IntKind.u8 (0 : Int), Value.int IntKind.u8 (0 : Int), Value.bool false, Value.int IntKind.u32 (0 : Int), Value.int IntKind.u32 (0 : Int), Value.int IntKind.u8 (0 : Int), Value.int IntKind.u8 (0 : Int), Value.bool false, Value.int IntKind.u32 (0 : Int), Value.int IntKind.u32 (0 : Int), Value.int IntKind.u8 (0 : Int), Value.int IntKind.u8 (0 : Int), Value.bool false, Value.int IntKind.u32 (0 : Int), Value.int IntKind.u32 (0 : Int), Value.int IntKind.u8 (0 : Int), Value.int IntKind.u8 (0 : Int), Value.bool false, Value.int IntKind.u32 (0 : Int), Value.int IntKind.u32 (0 : Int), Value.int IntKind.u8 (0 : Int), Value.int IntKind.u8 (0 : Int), Value.bool false, Value.int IntKind.u32 (0 : Int), Value.int IntKind.u32 (0 : Int), Value.int IntKind.u8 (0 : Int), Value.int IntKind.u8 (0 : Int), Value.bool false, Value.int IntKind.u32 (0 : Int), Value.int IntKind.u32 (0 : Int), Value.int IntKind.u8 (0 : Int), Value.int IntKind.u8 (0 : Int), Value.bool false, Value.int IntKind.u32 (0 : Int), Value.int IntKind.u32 (0 : Int), Value.int IntKind.u8 (0 : Int), Value.int IntKind.u8 (0 : Int), Value.bool false, Value.int IntKind.u32 (0 : Int), Value.int IntKind.u32 (0 : Int), Value.int IntKind.u8 (0 : Int), Value.int IntKind.u8 (0 : Int), Value.bool false, Value.int IntKind.u32 (0 : Int), Value.int IntKind.u32 (0 : Int), Value.int IntKind.u8 (0 : Int), Value.int IntKind.u8 (0 : Int), Value.bool false, Value.int IntKind.u32 (0 : Int), Value.int IntKind.u32 (0 : Int), Value.int IntKind.u8 (0 : Int), Value.int IntKind.u8 (0 : Int), Value.bool false, Value.int IntKind.u32 (0 : Int), Value.int IntKind.u32 (0 : Int), Value.int IntKind.u8 (0 : Int), Value.int IntKind.u8 (0 : Int), Value.bool false, Value.int IntKind.u32 (0 : Int), Value.int IntKind.u32 (0 : Int), Value.int IntKind.u8 (0 : Int), Value.int IntKind.u8 (0 : Int), Value.bool false, Value.int IntKind.u32 (0 : Int), Value.int IntKind.u32 (0 : Int), Value.int IntKind.u8 (0 : Int), Value.int IntKind.u8 (0 : Int), Value.bool false, Value.int IntKind.u32 (0 : Int), Value.int IntKind.u32 (0 : Int), Value.int IntKind.u8 (0 : Int), Value.int IntKind.u8 (0 : Int), Value.bool false, Value.int IntKind.u32 (0 : Int)] ∧ CallKind.normal = CallKind.normal ∧ TodoOk (ren 1 [(1, 1), (2, 2)]) wL_d0 wL_d0 ∧ (0 : Int) = (0 : Int) ∧ k = k ∧ (↑k : Int) = (↑k : Int) ∧ (30 : TypeId) = (30 : TypeId) ∧ rs = rs ∧ (35 : TypeId) = (35 : Nat) ∧ ts = ts ∧ (35 : TypeId) = (35 : Nat) ∧ #[Value.int IntKind.u32 (0 : Int), Value.int IntKind.u8 (0 : Int), Value.int IntKind.u32 (0 : Int), Value.int IntKind.u8 (0 : Int), Value.int IntKind.u32 (0 : Int), Value.int IntKind.u8 (0 : Int), Value.int IntKind.u32 (0 : Int), Value.int IntKind.u8 (0 : Int), Value.int IntKind.u32 (0 : Int), Value.int IntKind.u8 (0 : Int), Value.int IntKind.u32 (0 : Int), Value.int IntKind.u8 (0 : Int), Value.int IntKind.u32 (0 : Int), Value.int IntKind.u8 (0 : Int), Value.int IntKind.u32 (0 : Int), Value.int IntKind.u8 (0 : Int), Value.int IntKind.u32 (0 : Int), Value.int IntKind.u8 (0 : Int), Value.int IntKind.u32 (0 : Int), Value.int IntKind.u8 (0 : Int), Value.int IntKind.u32 (0 : Int), Value.int IntKind.u8 (0 : Int), Value.int IntKind.u32 (0 : Int), Value.int IntKind.u8 (0 : Int), Value.int IntKind.u32 (0 : Int), Value.int IntKind.u8 (0 : Int), Value.int IntKind.u32 (0 : Int), Value.int IntKind.u8 (0 : Int), Value.int IntKind.u32 (0 : Int), Value.int IntKind.u8 (0 : Int), Value.int IntKind.u32 (0 : Int), Value.int IntKind.u8 (0 : Int), Value.int IntKind.u32 (0 : Int), Value.int IntKind.u8 (0 : Int), Value.int IntKind.u32 (0 : Int), Value.int IntKind.u8 (0 : Int), Value.int IntKind.u32 (0 : Int), Value.int IntKind.u8 (0 : Int), Value.int IntKind.u32 (0 : Int), Value.int IntKind.u8 (0 : Int), Value.int IntKind.u32 (0 : Int), Value.int IntKind.u8 (0 : Int), Value.int IntKind.u32 (0 : Int), Value.int IntKind.u8 (0 : Int), Value.int IntKind.u32 (0 : Int), Value.int IntKind.u8 (0 : Int), Value.int IntKind.u32 (0 : Int), Value.int IntKind.u8 (0 : Int), Value.int IntKind.u32 (0 : Int), Value.int IntKind.u8 (0 : Int), Value.int IntKind.u32 (0 : Int), Value.int IntKind.u8 (0 : Int), Value.int IntKind.u32 (0 : Int), Value.int IntKind.u8 (0 : Int), Value.int IntKind.u32 (0 : Int), Value.int IntKind.u8 (0 : Int), Value.int IntKind.u32 (0 : Int), Value.int IntKind.u8 (0 : Int), Value.int IntKind.u32 (0 : Int), Value.int IntKind.u8 (0 : Int), Value.int IntKind.u32 (0 : Int), Value.int IntKind.u8 (0 : Int), Value.int IntKind.u32 (0 : Int), Value.int IntKind.u8 (0 : Int), Value.int IntKind.u32 (0 : Int), Value.int IntKind.u8 (0 : Int), Value.int IntKind.u8 (0 : Int), Value.bool false, Value.int IntKind.u32 (0 : Int), Value.int IntKind.u32 (0 : Int), Value.int IntKind.u8 (0 : Int), Value.int IntKind.u8 (0 : Int), Value.bool false, Value.int IntKind.u32 (0 : Int), Value.int IntKind.u32 (0 : Int), Value.int IntKind.u8 (0 : Int), Value.int IntKind.u8 (0 : Int), Value.bool false, Value.int IntKind.u32 (0 : Int), Value.int IntKind.u32 (0 : Int), Value.int IntKind.u8 (0 : Int), Value.int IntKind.u8 (0 : Int), Value.bool false, Value.int IntKind.u32 (0 : Int), Value.int IntKind.u32 (0 : Int), Value.int IntKind.u8 (0 : Int), Value.int IntKind.u8 (0 : Int), Value.bool false, Value.int IntKind.u32 (0 : Int), Value.int IntKind.u32 (0 : Int), Value.int IntKind.u8 (0 : Int), Value.int IntKind.u8 (0 : Int), Value.bool false, Value.int IntKind.u32 (0 : Int), Value.int IntKind.u32 (0 : Int), Value.int IntKind.u8 (0 : Int), Value.int IntKind.u8 (0 : Int), Value.bool false, Value.int IntKind.u32 (0 : Int), Value.int IntKind.u32 (0 : Int), Value.int IntKind.u8 (0 : Int), Value.int IntKind.u8 (0 : Int), Value.bool false, Value.int IntKind.u32 (0 : Int), Value.int IntKind.u32 (0 : Int), Value.int IntKind.u8 (0 : Int), Value.int IntKind.u8 (0 : Int), Value.bool false, Value.int IntKind.u32 (0 : Int), Value.int IntKind.u32 (0 : Int), Value.int IntKind.u8 (0 : Int), Value.int IntKind.u8 (0 : Int), Value.bool false, Value.int IntKind.u32 (0 : Int), Value.int IntKind.u32 (0 : Int), Value.int IntKind.u8 (0 : Int), Value.int IntKind.u8 (0 : Int), Value.bool false, Value.int IntKind.u32 (0 : Int), Value.int IntKind.u32 (0 : Int), Value.int IntKind.u8 (0 : Int), Value.int IntKind.u8 (0 : Int), Value.bool false, Value.int IntKind.u32 (0 : Int), Value.int IntKind.u32 (0 : Int), Value.int IntKind.u8 (0 : Int), Value.int IntKind.u8 (0 : Int), Value.bool false, Value.int IntKind.u32 (0 : Int), Value.int IntKind.u32 (0 : Int), Value.int IntKind.u8 (0 : Int), Value.int IntKind.u8 (0 : Int), Value.bool false, Value.int IntKind.u32 (0 : Int), Value.int IntKind.u32 (0 : Int), Value.int IntKind.u8 (0 : Int), Value.int IntKind.u8 (0 : Int), Value.bool false, Value.int IntKind.u32 (0 : Int), Value.int IntKind.u32 (0 : Int), Value.int IntKind.u8 (0 : Int), Value.int IntKind.u8 (0 : Int), Value.bool false, Value.int IntKind.u32 (0 : Int)] = #[Value.int IntKind.u32 (0 : Int), Value.int IntKind.u8 (0 : Int), Value.int IntKind.u32 (0 : Int), Value.int IntKind.u8 (0 : Int), Value.int IntKind.u32 (0 : Int), Value.int IntKind.u8 (0 : Int), Value.int IntKind.u32 (0 : Int), Value.int IntKind.u8 (0 : Int), Value.int IntKind.u32 (0 : Int), Value.int IntKind.u8 (0 : Int), Value.int IntKind.u32 (0 : Int), Value.int IntKind.u8 (0 : Int), Value.int IntKind.u32 (0 : Int), Value.int IntKind.u8 (0 : Int), Value.int IntKind.u32 (0 : Int), Value.int IntKind.u8 (0 : Int), Value.int IntKind.u32 (0 : Int), Value.int IntKind.u8 (0 : Int), Value.int IntKind.u32 (0 : Int), Value.int IntKind.u8 (0 : Int), Value.int IntKind.u32 (0 : Int), Value.int IntKind.u8 (0 : Int), Value.int IntKind.u32 (0 : Int), Value.int IntKind.u8 (0 : Int), Value.int IntKind.u32 (0 : Int), Value.int IntKind.u8 (0 : Int), Value.int IntKind.u32 (0 : Int), Value.int IntKind.u8 (0 : Int), Value.int IntKind.u32 (0 : Int), Value.int IntKind.u8 (0 : Int), Value.int IntKind.u32 (0 : Int), Value.int IntKind.u8 (0 : Int), Value.int IntKind.u32 (0 : Int), Value.int IntKind.u8 (0 : Int), Value.int IntKind.u32 (0 : Int), Value.int IntKind.u8 (0 : Int), Value.int IntKind.u32 (0 : Int), Value.int IntKind.u8 (0 : Int), Value.int IntKind.u32 (0 : Int), Value.int IntKind.u8 (0 : Int), Value.int IntKind.u32 (0 : Int), Value.int IntKind.u8 (0 : Int), Value.int IntKind.u32 (0 : Int), Value.int IntKind.u8 (0 : Int), Value.int IntKind.u32 (0 : Int), Value.int IntKind.u8 (0 : Int), Value.int IntKind.u32 (0 : Int), Value.int IntKind.u8 (0 : Int), Value.int IntKind.u32 (0 : Int), Value.int IntKind.u8 (0 : Int), Value.int IntKind.u32 (0 : Int), Value.int IntKind.u8 (0 : Int), Value.int IntKind.u32 (0 : Int), Value.int IntKind.u8 (0 : Int), Value.int IntKind.u32 (0 : Int), Value.int IntKind.u8 (0 : Int), Value.int IntKind.u32 (0 : Int), Value.int IntKind.u8 (0 : Int), Value.int IntKind.u32 (0 : Int), Value.int IntKind.u8 (0 : Int), Value.int IntKind.u32 (0 : Int), Value.int IntKind.u8 (0 : Int), Value.int IntKind.u32 (0 : Int), Value.int IntKind.u8 (0 : Int), Value.int IntKind.u32 (0 : Int), Value.int IntKind.u8 (0 : Int), Value.int IntKind.u8 (0 : Int), Value.bool false, Value.int IntKind.u32 (0 : Int), Value.int IntKind.u32 (0 : Int), Value.int IntKind.u8 (0 : Int), Value.int IntKind.u8 (0 : Int), Value.bool false, Value.int IntKind.u32 (0 : Int), Value.int IntKind.u32 (0 : Int), Value.int IntKind.u8 (0 : Int), Value.int IntKind.u8 (0 : Int), Value.bool false, Value.int IntKind.u32 (0 : Int), Value.int IntKind.u32 (0 : Int), Value.int IntKind.u8 (0 : Int), Value.int IntKind.u8 (0 : Int), Value.bool false, Value.int IntKind.u32 (0 : Int), Value.int IntKind.u32 (0 : Int), Value.int IntKind.u8 (0 : Int), Value.int IntKind.u8 (0 : Int), Value.bool false, Value.int IntKind.u32 (0 : Int), Value.int IntKind.u32 (0 : Int), Value.int IntKind.u8 (0 : Int), Value.int IntKind.u8 (0 : Int), Value.bool false, Value.int IntKind.u32 (0 : Int), Value.int IntKind.u32 (0 : Int), Value.int IntKind.u8 (0 : Int), Value.int IntKind.u8 (0 : Int), Value.bool false, Value.int IntKind.u32 (0 : Int), Value.int IntKind.u32 (0 : Int), Value.int IntKind.u8 (0 : Int), Value.int IntKind.u8 (0 : Int), Value.bool false, Value.int IntKind.u32 (0 : Int), Value.int IntKind.u32 (0 : Int), Value.int IntKind.u8 (0 : Int), Value.int IntKind.u8 (0 : Int), Value.bool false, Value.int IntKind.u32 (0 : Int), Value.int IntKind.u32 (0 : Int), Value.int IntKind.u8 (0 : Int), Value.int IntKind.u8 (0 : Int), Value.bool false, Value.int IntKind.u32 (0 : Int), Value.int IntKind.u32 (0 : Int), Value.int IntKind.u8 (0 : Int), Value.int IntKind.u8 (0 : Int), Value.bool false, Value.int IntKind.u32 (0 : Int), Value.int IntKind.u32 (0 : Int), Value.int IntKind.u8 (0 : Int), Value.int IntKind.u8 (0 : Int), Value.bool false, Value.int IntKind.u32 (0 : Int), Value.int IntKind.u32 (0 : Int), Value.int IntKind.u8 (0 : Int), Value.int IntKind.u8 (0 : Int), Value.bool false, Value.int IntKind.u32 (0 : Int), Value.int IntKind.u32 (0 : Int), Value.int IntKind.u8 (0 : Int), Value.int IntKind.u8 (0 : Int), Value.bool false, Value.int IntKind.u32 (0 : Int), Value.int IntKind.u32 (0 : Int), Value.int IntKind.u8 (0 : Int), Value.int IntKind.u8 (0 : Int), Value.bool false, Value.int IntKind.u32 (0 : Int), Value.int IntKind.u32 (0 : Int), Value.int IntKind.u8 (0 : Int), Value.int IntKind.u8 (0 : Int), Value.bool false, Value.int IntKind.u32 (0 : Int)] ∧ True) := by kernel_rfl
theorem w1 (k : Nat) (rs : Array Value) (i : Int) (ts zz o : Array Value) (Q : Int → Array Value → Array Value → Prop) : (stepT ET.go (run ET 1000) 1 (wL_F k rs i ts zz) (wL_M k rs i ts zz)).vc (retOk 1 [] (tkS o) (rwM rs)) (wL_n k rs Q) =
    ((decide (i < (↑k : Int)) = true → (((0 : Int) ≤ i ∧ i < (↑k : Int)) ∧ True) ∧ (IsInt IntKind.u32 rs ((0 : Nat) + Int.toNat i * 1) ∧ True) ∧ (((0 : Int) ≤ intAt rs ((0 : Nat) + Int.toNat i * 1) ∧ intAt rs ((0 : Nat) + Int.toNat i * 1) < (4294967296 : Int)) ∧ True) ∧ ((64 : Nat) ≤ Array.size ts ∧ True) ∧ (BkOk (Array.extract ts (0 : Nat) (64 : Nat)) ∧ ((0 : Int) ≤ intAt rs ((0 : Nat) + Int.toNat i * 1) ∧ intAt rs ((0 : Nat) + Int.toNat i * 1) < (4294967296 : Int)) ∧ True) ∧ (Array.size (voidB (Array.extract ts (0 : Nat) (64 : Nat)) (intAt rs ((0 : Nat) + Int.toNat i * 1))) = (64 : Nat) ∧ (0 : Nat) + Array.size (voidB (Array.extract ts (0 : Nat) (64 : Nat)) (intAt rs ((0 : Nat) + Int.toNat i * 1))) ≤ Array.size ts ∧ True) ∧ (((0 : Int) ≤ slotI (intAt rs ((0 : Nat) + Int.toNat i * 1)) ∧ slotI (intAt rs ((0 : Nat) + Int.toNat i * 1)) < (16 : Int)) ∧ True) ∧ ((64 : Nat) + Int.toNat (slotI (intAt rs ((0 : Nat) + Int.toNat i * 1))) * 5 + 5 ≤ Array.size (putAt ts (0 : Nat) (Array.toList (voidB (Array.extract ts (0 : Nat) (64 : Nat)) (intAt rs ((0 : Nat) + Int.toNat i * 1))))) ∧ True) ∧ Q (ari BinOp.add IntKind.i64 i (1 : Int)) (putAt (putAt ts (0 : Nat) (Array.toList (voidB (Array.extract ts (0 : Nat) (64 : Nat)) (intAt rs ((0 : Nat) + Int.toNat i * 1))))) ((64 : Nat) + Int.toNat (slotI (intAt rs ((0 : Nat) + Int.toNat i * 1))) * 5) [Value.int IntKind.u32 (0 : Int), Value.int IntKind.u8 (0 : Int), Value.int IntKind.u8 (0 : Int), Value.bool false, Value.int IntKind.u32 (0 : Int)]) zz ∧ CallKind.normal = CallKind.normal ∧ TodoOk (ren 1 [(1, 1), (2, 2)]) wL_d0 wL_d0 ∧ ari BinOp.add IntKind.i64 i (1 : Int) = ari BinOp.add IntKind.i64 i (1 : Int) ∧ k = k ∧ (↑k : Int) = (↑k : Int) ∧ (30 : TypeId) = (30 : TypeId) ∧ rs = rs ∧ (35 : TypeId) = (35 : TypeId) ∧ putAt (putAt ts (0 : Nat) (Array.toList (voidB (Array.extract ts (0 : Nat) (64 : Nat)) (intAt rs ((0 : Nat) + Int.toNat i * 1))))) ((64 : Nat) + Int.toNat (slotI (intAt rs ((0 : Nat) + Int.toNat i * 1))) * 5) [Value.int IntKind.u32 (0 : Int), Value.int IntKind.u8 (0 : Int), Value.int IntKind.u8 (0 : Int), Value.bool false, Value.int IntKind.u32 (0 : Int)] = putAt (putAt ts (0 : Nat) (Array.toList (voidB (Array.extract ts (0 : Nat) (64 : Nat)) (intAt rs ((0 : Nat) + Int.toNat i * 1))))) ((64 : Nat) + Int.toNat (slotI (intAt rs ((0 : Nat) + Int.toNat i * 1))) * 5) [Value.int IntKind.u32 (0 : Int), Value.int IntKind.u8 (0 : Int), Value.int IntKind.u8 (0 : Int), Value.bool false, Value.int IntKind.u32 (0 : Int)] ∧ (35 : TypeId) = (35 : TypeId) ∧ zz = zz ∧ True) ∧ (decide (i < (↑k : Int)) = false → (Array.size ts = (144 : Nat) ∧ True) ∧ (Array.size ts = (144 : Nat) ∧ Array.size ts = Array.size zz ∧ True) ∧ (Array.size ts = (144 : Nat) ∧ True) ∧ o = ts ∧ (30 : TypeId) = (30 : TypeId) ∧ rs = rs ∧ True)) := by kernel_rfl
theorem wN (ts o : Array Value) : (run EU 1000 0 [callFr 30 Try.f30.ntmps [tkS ts, .s (.c (.f (.lit (.slice none 0 0))))] (Try.f30.body.getD .skip)] e0M).vc (retOk 0 [] (tkS o) e0M) (fun _ _ => False) =
    ((Array.size ts = (144 : Nat) ∧ True) ∧ (Array.size ts = (144 : Nat) ∧ Array.size ts = (144 : Nat) ∧ True) ∧ (Array.size ts = (144 : Nat) ∧ True) ∧ o = ts ∧ True) := by kernel_rfl
theorem rd0 (ts : Array Value) (r a : Int) (b : Bool) : (run EU 1000 0 [callFr 19 Try.f19.ntmps [tkS ts, u32 r, u32 a] (Try.f19.body.getD .skip)] e0M).vc (retOk 0 [] (sB (.o b)) e0M) (fun _ _ => False) =
    ((Array.size ts = (144 : Nat) ∧ True) ∧ (((a == (0 : Int)) == false) = true → ((64 : Nat) ≤ Array.size ts ∧ True) ∧ (BkOk (Array.extract ts (0 : Nat) (64 : Nat)) ∧ ((0 : Int) ≤ a ∧ a < (4294967296 : Int)) ∧ True) ∧ ((goodB (Array.extract ts (0 : Nat) (64 : Nat)) a == true) = true → (Array.size ts = (144 : Nat) ∧ True) ∧ (Array.size ts = (144 : Nat) ∧ True) ∧ (TsOk ts ∧ True) ∧ (decide (List.length (whL (bkT ts) (dP ts r a true) (16 : Nat)) = (0 : Nat)) = true → b = true ∧ True) ∧ (decide (List.length (whL (bkT ts) (dP ts r a true) (16 : Nat)) = (0 : Nat)) = false → b = false ∧ True)) ∧ ((goodB (Array.extract ts (0 : Nat) (64 : Nat)) a == true) = false → b = false ∧ True)) ∧ (((a == (0 : Int)) == false) = false → (Array.size ts = (144 : Nat) ∧ True) ∧ (Array.size ts = (144 : Nat) ∧ True) ∧ (TsOk ts ∧ True) ∧ (decide (List.length (whL (bkT ts) (dP ts r a true) (16 : Nat)) = (0 : Nat)) = true → b = true ∧ True) ∧ (decide (List.length (whL (bkT ts) (dP ts r a true) (16 : Nat)) = (0 : Nat)) = false → b = false ∧ True))) := by kernel_rfl
theorem wr0 (ts : Array Value) (r a : Int) (b : Bool) : (run EU 1000 0 [callFr 21 Try.f21.ntmps [tkS ts, u32 r, u32 a] (Try.f21.body.getD .skip)] e0M).vc (retOk 0 [] (sB (.o b)) e0M) (fun _ _ => False) =
    ((Array.size ts = (144 : Nat) ∧ True) ∧ (((a == (0 : Int)) == false) = true → ((64 : Nat) ≤ Array.size ts ∧ True) ∧ (BkOk (Array.extract ts (0 : Nat) (64 : Nat)) ∧ ((0 : Int) ≤ a ∧ a < (4294967296 : Int)) ∧ True) ∧ ((goodB (Array.extract ts (0 : Nat) (64 : Nat)) a == true) = true → (Array.size ts = (144 : Nat) ∧ True) ∧ (Array.size ts = (144 : Nat) ∧ True) ∧ (TsOk ts ∧ True) ∧ (decide (List.length (whL (bkT ts) (dP ts r a false) (16 : Nat)) = (0 : Nat)) = true → b = true ∧ True) ∧ (decide (List.length (whL (bkT ts) (dP ts r a false) (16 : Nat)) = (0 : Nat)) = false → b = false ∧ True)) ∧ ((goodB (Array.extract ts (0 : Nat) (64 : Nat)) a == true) = false → b = false ∧ True)) ∧ (((a == (0 : Int)) == false) = false → (Array.size ts = (144 : Nat) ∧ True) ∧ (Array.size ts = (144 : Nat) ∧ True) ∧ (TsOk ts ∧ True) ∧ (decide (List.length (whL (bkT ts) (dP ts r a false) (16 : Nat)) = (0 : Nat)) = true → b = true ∧ True) ∧ (decide (List.length (whL (bkT ts) (dP ts r a false) (16 : Nat)) = (0 : Nat)) = false → b = false ∧ True))) := by kernel_rfl
theorem gt0 (ts : Array Value) (h : Int) (c : Array Value) (e : Int) : (run EU 1000 0 [callFr 23 Try.f23.ntmps [tkS ts, u32 h] (Try.f23.body.getD .skip)] e0M).vc (retOk 0 [] (.tup [.agg (.op c), .c (.f (.int .i64 (.o e)))]) e0M) (fun _ _ => False) =
    (((64 : Nat) ≤ Array.size ts ∧ True) ∧ (BkOk (Array.extract ts (0 : Nat) (64 : Nat)) ∧ ((0 : Int) ≤ h ∧ h < (4294967296 : Int)) ∧ True) ∧ ((!goodB (Array.extract ts (0 : Nat) (64 : Nat)) h) = true → c = #[Value.int IntKind.u32 (0 : Int), Value.int IntKind.u8 (0 : Int), Value.int IntKind.u8 (0 : Int), Value.bool false, Value.int IntKind.u32 (0 : Int)] ∧ e = (4 : Int) ∧ True) ∧ ((!goodB (Array.extract ts (0 : Nat) (64 : Nat)) h) = false → (((0 : Int) ≤ h ∧ h < (4294967296 : Int)) ∧ True) ∧ (((0 : Int) ≤ slotI h ∧ slotI h < (16 : Int)) ∧ True) ∧ (IsInt IntKind.u32 ts ((64 : Nat) + Int.toNat (slotI h) * 5) ∧ IsInt IntKind.u8 ts ((64 : Nat) + Int.toNat (slotI h) * 5 + 1) ∧ IsInt IntKind.u8 ts ((64 : Nat) + Int.toNat (slotI h) * 5 + 2) ∧ IsBool ts ((64 : Nat) + Int.toNat (slotI h) * 5 + 3) ∧ IsInt IntKind.u32 ts ((64 : Nat) + Int.toNat (slotI h) * 5 + 4) ∧ True) ∧ c = #[Value.int IntKind.u32 (intAt ts ((64 : Nat) + Int.toNat (slotI h) * 5)), Value.int IntKind.u8 (intAt ts ((64 : Nat) + Int.toNat (slotI h) * 5 + 1)), Value.int IntKind.u8 (intAt ts ((64 : Nat) + Int.toNat (slotI h) * 5 + 2)), Value.bool (boolAt ts ((64 : Nat) + Int.toNat (slotI h) * 5 + 3)), Value.int IntKind.u32 (intAt ts ((64 : Nat) + Int.toNat (slotI h) * 5 + 4))] ∧ e = (0 : Int) ∧ True)) := by kernel_rfl
theorem my0 (ts : Array Value) (r b t : Int) (m : Bool) (a : Int) (e : Int) : (run EU 1000 0 [callFr 33 Try.f33.ntmps [tkS ts, tokS r b t m a] (Try.f33.body.getD .skip)] e0M).vc (retOk 0 [] (i64 (.o e)) e0M) (fun _ _ => False) =
    ((Array.size ts = (144 : Nat) ∧ True) ∧ (((a == (0 : Int)) == false) = true → ((64 : Nat) ≤ Array.size ts ∧ True) ∧ (BkOk (Array.extract ts (0 : Nat) (64 : Nat)) ∧ ((0 : Int) ≤ a ∧ a < (4294967296 : Int)) ∧ True) ∧ ((!goodB (Array.extract ts (0 : Nat) (64 : Nat)) a) = true → e = (4 : Int) ∧ True) ∧ ((!goodB (Array.extract ts (0 : Nat) (64 : Nat)) a) = false → ((decide (b ≥ (8 : Int)) == false) = true → ((decide (t ≥ (8 : Int)) == false) = true → (((b == t) == false) = true → ((r == (0 : Int)) = true → e = (2 : Int) ∧ True) ∧ ((r == (0 : Int)) = false → (Array.size ts = (144 : Nat) ∧ True) ∧ ((64 : Nat) ≤ Array.size ts ∧ True) ∧ (BkOk (Array.extract ts (0 : Nat) (64 : Nat)) ∧ ((0 : Int) ≤ a ∧ a < (4294967296 : Int)) ∧ True) ∧ ((!goodB (Array.extract ts (0 : Nat) (64 : Nat)) a) = true → (Array.size ts = (144 : Nat) ∧ True) ∧ (Array.size ts = (144 : Nat) ∧ True) ∧ (TsOk ts ∧ True) ∧ (decide (List.length (whL (bkT ts) (dP ts r a !m) (16 : Nat)) = (0 : Nat)) = true → e = (0 : Int) ∧ True) ∧ (decide (List.length (whL (bkT ts) (dP ts r a !m) (16 : Nat)) = (0 : Nat)) = false → e = (5 : Int) ∧ True)) ∧ ((!goodB (Array.extract ts (0 : Nat) (64 : Nat)) a) = false → (((0 : Int) ≤ a ∧ a < (4294967296 : Int)) ∧ True) ∧ (((0 : Int) ≤ slotI a ∧ slotI a < (16 : Int)) ∧ True) ∧ (IsInt IntKind.u32 ts ((64 : Nat) + Int.toNat (slotI a) * 5) ∧ IsInt IntKind.u8 ts ((64 : Nat) + Int.toNat (slotI a) * 5 + 1) ∧ IsInt IntKind.u8 ts ((64 : Nat) + Int.toNat (slotI a) * 5 + 2) ∧ IsBool ts ((64 : Nat) + Int.toNat (slotI a) * 5 + 3) ∧ IsInt IntKind.u32 ts ((64 : Nat) + Int.toNat (slotI a) * 5 + 4) ∧ True) ∧ (((intAt ts ((64 : Nat) + Int.toNat (slotI a) * 5) != r) == false) = true → (((intAt ts ((64 : Nat) + Int.toNat (slotI a) * 5 + 2) != b) == false) = true → ((m == true) = true → ((!boolAt ts ((64 : Nat) + Int.toNat (slotI a) * 5 + 3)) = true → e = (12 : Int) ∧ True) ∧ ((!boolAt ts ((64 : Nat) + Int.toNat (slotI a) * 5 + 3)) = false → (Array.size ts = (144 : Nat) ∧ True) ∧ (Array.size ts = (144 : Nat) ∧ True) ∧ (TsOk ts ∧ True) ∧ (decide (List.length (whL (bkT ts) (dP ts r a !m) (16 : Nat)) = (0 : Nat)) = true → e = (0 : Int) ∧ True) ∧ (decide (List.length (whL (bkT ts) (dP ts r a !m) (16 : Nat)) = (0 : Nat)) = false → e = (5 : Int) ∧ True))) ∧ ((m == true) = false → (Array.size ts = (144 : Nat) ∧ True) ∧ (Array.size ts = (144 : Nat) ∧ True) ∧ (TsOk ts ∧ True) ∧ (decide (List.length (whL (bkT ts) (dP ts r a !m) (16 : Nat)) = (0 : Nat)) = true → e = (0 : Int) ∧ True) ∧ (decide (List.length (whL (bkT ts) (dP ts r a !m) (16 : Nat)) = (0 : Nat)) = false → e = (5 : Int) ∧ True))) ∧ (((intAt ts ((64 : Nat) + Int.toNat (slotI a) * 5 + 2) != b) == false) = false → e = (12 : Int) ∧ True)) ∧ (((intAt ts ((64 : Nat) + Int.toNat (slotI a) * 5) != r) == false) = false → e = (12 : Int) ∧ True)))) ∧ (((b == t) == false) = false → e = (2 : Int) ∧ True)) ∧ ((decide (t ≥ (8 : Int)) == false) = false → e = (2 : Int) ∧ True)) ∧ ((decide (b ≥ (8 : Int)) == false) = false → e = (2 : Int) ∧ True))) ∧ (((a == (0 : Int)) == false) = false → ((decide (b ≥ (8 : Int)) == false) = true → ((decide (t ≥ (8 : Int)) == false) = true → (((b == t) == false) = true → ((r == (0 : Int)) = true → e = (2 : Int) ∧ True) ∧ ((r == (0 : Int)) = false → (Array.size ts = (144 : Nat) ∧ True) ∧ ((64 : Nat) ≤ Array.size ts ∧ True) ∧ (BkOk (Array.extract ts (0 : Nat) (64 : Nat)) ∧ ((0 : Int) ≤ a ∧ a < (4294967296 : Int)) ∧ True) ∧ ((!goodB (Array.extract ts (0 : Nat) (64 : Nat)) a) = true → (Array.size ts = (144 : Nat) ∧ True) ∧ (Array.size ts = (144 : Nat) ∧ True) ∧ (TsOk ts ∧ True) ∧ (decide (List.length (whL (bkT ts) (dP ts r a !m) (16 : Nat)) = (0 : Nat)) = true → e = (0 : Int) ∧ True) ∧ (decide (List.length (whL (bkT ts) (dP ts r a !m) (16 : Nat)) = (0 : Nat)) = false → e = (5 : Int) ∧ True)) ∧ ((!goodB (Array.extract ts (0 : Nat) (64 : Nat)) a) = false → (((0 : Int) ≤ a ∧ a < (4294967296 : Int)) ∧ True) ∧ (((0 : Int) ≤ slotI a ∧ slotI a < (16 : Int)) ∧ True) ∧ (IsInt IntKind.u32 ts ((64 : Nat) + Int.toNat (slotI a) * 5) ∧ IsInt IntKind.u8 ts ((64 : Nat) + Int.toNat (slotI a) * 5 + 1) ∧ IsInt IntKind.u8 ts ((64 : Nat) + Int.toNat (slotI a) * 5 + 2) ∧ IsBool ts ((64 : Nat) + Int.toNat (slotI a) * 5 + 3) ∧ IsInt IntKind.u32 ts ((64 : Nat) + Int.toNat (slotI a) * 5 + 4) ∧ True) ∧ (((intAt ts ((64 : Nat) + Int.toNat (slotI a) * 5) != r) == false) = true → (((intAt ts ((64 : Nat) + Int.toNat (slotI a) * 5 + 2) != b) == false) = true → ((m == true) = true → ((!boolAt ts ((64 : Nat) + Int.toNat (slotI a) * 5 + 3)) = true → e = (12 : Int) ∧ True) ∧ ((!boolAt ts ((64 : Nat) + Int.toNat (slotI a) * 5 + 3)) = false → (Array.size ts = (144 : Nat) ∧ True) ∧ (Array.size ts = (144 : Nat) ∧ True) ∧ (TsOk ts ∧ True) ∧ (decide (List.length (whL (bkT ts) (dP ts r a !m) (16 : Nat)) = (0 : Nat)) = true → e = (0 : Int) ∧ True) ∧ (decide (List.length (whL (bkT ts) (dP ts r a !m) (16 : Nat)) = (0 : Nat)) = false → e = (5 : Int) ∧ True))) ∧ ((m == true) = false → (Array.size ts = (144 : Nat) ∧ True) ∧ (Array.size ts = (144 : Nat) ∧ True) ∧ (TsOk ts ∧ True) ∧ (decide (List.length (whL (bkT ts) (dP ts r a !m) (16 : Nat)) = (0 : Nat)) = true → e = (0 : Int) ∧ True) ∧ (decide (List.length (whL (bkT ts) (dP ts r a !m) (16 : Nat)) = (0 : Nat)) = false → e = (5 : Int) ∧ True))) ∧ (((intAt ts ((64 : Nat) + Int.toNat (slotI a) * 5 + 2) != b) == false) = false → e = (12 : Int) ∧ True)) ∧ (((intAt ts ((64 : Nat) + Int.toNat (slotI a) * 5) != r) == false) = false → e = (12 : Int) ∧ True)))) ∧ (((b == t) == false) = false → e = (2 : Int) ∧ True)) ∧ ((decide (t ≥ (8 : Int)) == false) = false → e = (2 : Int) ∧ True)) ∧ ((decide (b ≥ (8 : Int)) == false) = false → e = (2 : Int) ∧ True))) := by kernel_rfl
end Go.Proofs.Ytnjmockpdmchcaa
/- Of token: the contracts of Reads, Writes, Get, may, without. No condition. -/
namespace Go.Proofs.Ytnjmockpdmchcaa
set_option maxRecDepth 100000
set_option linter.unusedSimpArgs false
set_option linter.unusedVariables false
theorem conT1_ok : ∀ g l m t, conT1 g l m = some t → Con E0 g l m t := by
  intro g l m t h
  unfold conT1 at h
  split at h
  · rename_i x; cases h
    refine Con.asked fun hq => Con.args (l' := [u32 x.den]) (fun R vs ha => by
      match vs, ha with
      | [v], ha => exact ⟨ha.1, trivial⟩) ?_
    intro A hs
    exact slot_con x.den m A ⟨fun p hp => hq p hp, hs⟩
  · rename_i bs x; cases h
    refine Con.asked fun hq => Con.args (l' := [bkS bs, u32 x.den]) (fun R vs ha => by
      match vs, ha with
      | [v, w], ha => exact ⟨ha.1, ha.2.1, trivial⟩) ?_
    intro A hs
    exact good_con x.den m A ⟨fun p hp => hq p hp, hs⟩
  · rename_i bs x; cases h
    refine Con.asked fun hq => Con.args (l' := [bkS bs, i64 (.o x.den)]) (fun R vs ha => by
      match vs, ha with
      | [v, w], ha => exact ⟨ha.1, ha.2.1, trivial⟩) ?_
    intro A hs
    exact at_con x.den m A ⟨fun p hp => hq p hp, hs⟩
  · rename_i bs x; cases h
    refine Con.asked fun hq => Con.args (l' := [bkS bs, u32 x.den]) (fun R vs ha => by
      match vs, ha with
      | [v, w], ha => exact ⟨ha.1, ha.2.1, trivial⟩) ?_
    intro A hs
    exact void_con x.den m A ⟨fun p hp => hq p hp, hs⟩
  · rename_i bs; cases h
    refine Con.asked fun hq => ?_
    intro A hs
    exact issue_con m A ⟨fun p hp => hq p hp, hs⟩
  · rename_i bs; cases h
    exact issued_con m
  · rename_i ts i
    split at h
    · rename_i x w hb; cases h; exact a_con hb
    · cases h
  · rename_i ts i
    split at h
    · rename_i x w hb; cases h; exact b_con hb
    · cases h
  · rename_i ts i
    split at h
    · rename_i x w hb; cases h; exact c_con hb
    · cases h
  · rename_i ts i j k
    split at h
    · rename_i x wx y wy z wz h1 h2 h3; cases h; exact d_con h1 h2 h3
    · cases h
  · cases h
theorem ET_ok : EnvOk ET := EnvOk.with E0_ok _ _ conT1_ok
theorem EU_ok : EnvOk EU := EnvOk.with E0_ok _ _ conT1_ok
def goodT (ts : Array Value) (a : Int) : Bool := (a == 0) || goodB (bkT ts) a
def freeB (ts : Array Value) (r a : Int) (all : Bool) : Bool := decide ((whL (bkT ts) (dP ts r a all) 16).length = 0)
def readsB (ts : Array Value) (r a : Int) : Bool := goodT ts a && freeB ts r a true
def writesB (ts : Array Value) (r a : Int) : Bool := goodT ts a && freeB ts r a false
def sl (h : Int) : Nat := (slotI h).toNat
def tR (ts : Array Value) (i : Nat) : Int := intAt (tk5 ts i) 0
def tB (ts : Array Value) (i : Nat) : Int := intAt (tk5 ts i) 1
def tT (ts : Array Value) (i : Nat) : Int := intAt (tk5 ts i) 2
def tM (ts : Array Value) (i : Nat) : Bool := boolAt (tk5 ts i) 3
def tA (ts : Array Value) (i : Nat) : Int := intAt (tk5 ts i) 4
def getC (ts : Array Value) (h : Int) : Array Value := if goodB (bkT ts) h = true then #[.int .u32 (tR ts (sl h)), .int .u8 (tB ts (sl h)), .int .u8 (tT ts (sl h)), .bool (tM ts (sl h)), .int .u32 (tA ts (sl h))] else #[.int .u32 0, .int .u8 0, .int .u8 0, .bool false, .int .u32 0]
def getE (ts : Array Value) (h : Int) : Int := if goodB (bkT ts) h = true then 0 else 4
def mayBad (r b t : Int) : Bool := decide (b ≥ 8) || (decide (t ≥ 8) || ((b == t) || (r == 0)))
def mayUp (ts : Array Value) (r b : Int) (m : Bool) (a : Int) : Bool := goodB (bkT ts) a && ((tR ts (sl a) != r) || ((tT ts (sl a) != b) || (m && !tM ts (sl a))))
def mayE (ts : Array Value) (r b t : Int) (m : Bool) (a : Int) : Int := if goodT ts a = false then 4 else if mayBad r b t = true then 2 else if mayUp ts r b m a = true then 12 else if freeB ts r a (!m) = true then 0 else 5
section
variable {ts : Array Value}
theorem tk5_get (h : ts.size = 144) {i j : Nat} (hi : i < 16) (hj : j < 5) : (tk5 ts i)[j]? = ts[64 + i * 5 + j]? := by
  unfold tk5
  rw [Array.getElem?_extract, if_pos (by rw [Array.size_extract]; omega), Array.getElem?_extract, if_pos (by omega)]
  congr 1
  omega
theorem tk5_int (h : ts.size = 144) {i j : Nat} (hi : i < 16) (hj : j < 5) : intAt ts (64 + i * 5 + j) = intAt (tk5 ts i) j := by unfold intAt; rw [tk5_get h hi hj]
theorem tk5_bool (h : ts.size = 144) {i j : Nat} (hi : i < 16) (hj : j < 5) : boolAt ts (64 + i * 5 + j) = boolAt (tk5 ts i) j := by unfold boolAt; rw [tk5_get h hi hj]
theorem tk5_isI (h : ts.size = 144) {i j : Nat} (hi : i < 16) (hj : j < 5) {k : IntKind} (hk : IsInt k (tk5 ts i) j) : IsInt k ts (64 + i * 5 + j) := by
  unfold IsInt intAt at *
  rwa [tk5_get h hi hj] at hk
theorem tk5_isB (h : ts.size = 144) {i j : Nat} (hi : i < 16) (hj : j < 5) (hk : IsBool (tk5 ts i) j) : IsBool ts (64 + i * 5 + j) := by
  unfold IsBool boolAt at *
  rwa [tk5_get h hi hj] at hk
theorem good_slot (h : TsOk ts) {a : Int} (hg : goodB (bkT ts) a = true) : 0 ≤ slotI a ∧ slotI a < 16 ∧ sl a < 16 ∧ (slotI a).toNat = sl a ∧ kindAt (bkT ts) (sl a) = 1 ∧ a = nameI (sl a) (ageAt (bkT ts) (sl a)) ∧ inH a ∧ 1 ≤ a := by
  obtain ⟨i, hi, hk, e⟩ := (goodB_iff h.bk).1 hg
  obtain ⟨h1, h2⟩ := goodB_in h.bk hg
  have e1 : (slotI a).toNat = i := by rw [e]; exact slotI_name hi (h.bk.ra i hi)
  have e2 : i < 16 := by
    rcases Nat.lt_or_ge i 16 with c | c
    · exact c
    · have := h.hi i c hi; omega
  obtain ⟨s1, s2⟩ := slotI_lt h1
  have e3 : sl a = i := e1
  refine ⟨s1, by omega, by omega, rfl, by rw [e3]; exact hk, by rw [e3]; exact e, h1, h2⟩
theorem zero_bad (bs : Array Value) : goodB bs 0 = false := rfl
theorem bk_fold (ts : Array Value) : ts.extract 0 64 = bkT ts := rfl
theorem free_fold (ts : Array Value) (r a : Int) (all : Bool) : decide ((whL (bkT ts) (dP ts r a all) 16).length = 0) = freeB ts r a all := rfl
theorem reads_con (r a : Int) (m : SMem) : Con E0 19 [tkS ts, u32 r, u32 a] m (needs [TsOk ts, inH a] (.ret (sB (.o (readsB ts r a))) m)) := by
  refine Con.pure E0_ok (by kernel_rfl : E0.fn 19 = some Try.f19) (by kernel_rfl : Try.f19.body = some (Try.f19.body.getD .skip)) (by kernel_rfl) (by kernel_rfl) fun hq => ?_
  have h : TsOk ts := hq _ (by simp)
  have ha : inH a := hq _ (by simp)
  refine (Good.ret [] (run_vc EU_ok 1000 (rd0 ts r a (readsB ts r a)) ?_ (fun s m h => h) fun _ _ h => h.elim)).mono fun _ _ h => h.1
  have hs := h.sz
  have hb : BkOk (bkT ts) := h.bk
  have ha' : 0 ≤ a ∧ a < 4294967296 := ha
  have hle : 64 ≤ ts.size := by omega
  unfold readsB goodT
  simp only [bk_fold, free_fold]
  cases h0 : (a == 0) <;> cases h1 : goodB (bkT ts) a <;> cases h2 : freeB ts r a true
  all_goals
    simp only [hs, beqT, beqF, Bool.or_true, Bool.or_false, Bool.true_or, Bool.false_or, Bool.true_and, Bool.false_and, Bool.not_true, Bool.not_false, true_implies, Bool.true_eq_false, Bool.false_eq_true, false_implies, and_true, true_and]
    repeat' first | exact hb | exact h | exact ha'.1 | exact ha'.2 | exact trivial | omega | apply And.intro
theorem writes_con (r a : Int) (m : SMem) : Con E0 21 [tkS ts, u32 r, u32 a] m (needs [TsOk ts, inH a] (.ret (sB (.o (writesB ts r a))) m)) := by
  refine Con.pure E0_ok (by kernel_rfl : E0.fn 21 = some Try.f21) (by kernel_rfl : Try.f21.body = some (Try.f21.body.getD .skip)) (by kernel_rfl) (by kernel_rfl) fun hq => ?_
  have h : TsOk ts := hq _ (by simp)
  have ha : inH a := hq _ (by simp)
  refine (Good.ret [] (run_vc EU_ok 1000 (wr0 ts r a (writesB ts r a)) ?_ (fun s m h => h) fun _ _ h => h.elim)).mono fun _ _ h => h.1
  have hs := h.sz
  have hb : BkOk (bkT ts) := h.bk
  have ha' : 0 ≤ a ∧ a < 4294967296 := ha
  have hle : 64 ≤ ts.size := by omega
  unfold writesB goodT
  simp only [bk_fold, free_fold]
  cases h0 : (a == 0) <;> cases h1 : goodB (bkT ts) a <;> cases h2 : freeB ts r a false
  all_goals
    simp only [hs, beqT, beqF, Bool.or_true, Bool.or_false, Bool.true_or, Bool.false_or, Bool.true_and, Bool.false_and, Bool.not_true, Bool.not_false, true_implies, Bool.true_eq_false, Bool.false_eq_true, false_implies, and_true, true_and]
    repeat' first | exact hb | exact h | exact ha'.1 | exact ha'.2 | exact trivial | omega | apply And.intro
theorem get_con (a : Int) (m : SMem) : Con E0 23 [tkS ts, u32 a] m (needs [TsOk ts, inH a] (.ret (.tup [.agg (.op (getC ts a)), .c (.f (.int .i64 (.o (getE ts a))))]) m)) := by
  refine Con.pure E0_ok (by kernel_rfl : E0.fn 23 = some Try.f23) (by kernel_rfl : Try.f23.body = some (Try.f23.body.getD .skip)) (by kernel_rfl) (by kernel_rfl) fun hq => ?_
  have h : TsOk ts := hq _ (by simp)
  have ha : inH a := hq _ (by simp)
  refine (Good.ret [] (run_vc EU_ok 1000 (gt0 ts a (getC ts a) (getE ts a)) ?_ (fun s m h => h) fun _ _ h => h.elim)).mono fun _ _ h => h.1
  have hs := h.sz
  have hb : BkOk (bkT ts) := h.bk
  have ha' : 0 ≤ a ∧ a < 4294967296 := ha
  have hle : 64 ≤ ts.size := by omega
  simp only [bk_fold]
  cases hg : goodB (bkT ts) a with
  | false =>
    have e1 : getC ts a = #[.int .u32 0, .int .u8 0, .int .u8 0, .bool false, .int .u32 0] := by unfold getC; rw [hg]; rfl
    have e2 : getE ts a = 4 := by unfold getE; rw [hg]; rfl
    simp only [e1, e2, Bool.not_true, Bool.not_false, true_implies, Bool.true_eq_false, Bool.false_eq_true, false_implies, and_true, true_and]
    exact ⟨hle, hb, ha'⟩
  | true =>
    obtain ⟨s1, s2, s3, s4, s5, s6, s7, s8⟩ := good_slot h hg
    have tk := h.tk _ s3
    have e1 : getC ts a = #[.int .u32 (tR ts (sl a)), .int .u8 (tB ts (sl a)), .int .u8 (tT ts (sl a)), .bool (tM ts (sl a)), .int .u32 (tA ts (sl a))] := by unfold getC; rw [hg]; rfl
    have e2 : getE ts a = 0 := by unfold getE; rw [hg]; rfl
    have i0 := tk5_int hs s3 (j := 0) (by omega)
    have i1 := tk5_int hs s3 (j := 1) (by omega)
    have i2 := tk5_int hs s3 (j := 2) (by omega)
    have i3 := tk5_bool hs s3 (j := 3) (by omega)
    have i4 := tk5_int hs s3 (j := 4) (by omega)
    rw [Nat.add_zero] at i0
    simp only [e1, e2, s4, i0, i1, i2, i3, i4, Bool.not_true, Bool.not_false, true_implies, Bool.true_eq_false, Bool.false_eq_true, false_implies, and_true, true_and]
    exact ⟨hle, ⟨hb, ha'⟩, ha', ⟨s1, s2⟩, ⟨tk5_isI hs s3 (j := 0) (by omega) tk.r, tk5_isI hs s3 (by omega) tk.b, tk5_isI hs s3 (by omega) tk.t, tk5_isB hs s3 (by omega) tk.m, tk5_isI hs s3 (by omega) tk.a⟩, rfl⟩
theorem may_con (r b t : Int) (mu : Bool) (a : Int) (m : SMem) : Con E0 33 [tkS ts, tokS r b t mu a] m (needs [TsOk ts, inH a] (.ret (i64 (.o (mayE ts r b t mu a))) m)) := by
  refine Con.pure E0_ok (by kernel_rfl : E0.fn 33 = some Try.f33) (by kernel_rfl : Try.f33.body = some (Try.f33.body.getD .skip)) (by kernel_rfl) (by kernel_rfl) fun hq => ?_
  have h : TsOk ts := hq _ (by simp)
  have ha : inH a := hq _ (by simp)
  refine (Good.ret [] (run_vc EU_ok 1000 (my0 ts r b t mu a (mayE ts r b t mu a)) ?_ (fun s m h => h) fun _ _ h => h.elim)).mono fun _ _ h => h.1
  have hs := h.sz
  have hb : BkOk (bkT ts) := h.bk
  have ha' : 0 ≤ a ∧ a < 4294967296 := ha
  have hle : 64 ≤ ts.size := by omega
  simp only [bk_fold, free_fold]
  have close1 : goodT ts a = true → mayBad r b t = true → mayE ts r b t mu a = 2 := fun h1 h2 => by unfold mayE; rw [h1, h2]; rfl
  have close2 : goodT ts a = true → mayBad r b t = false → mayUp ts r b mu a = true → mayE ts r b t mu a = 12 := fun h1 h2 h3 => by unfold mayE; rw [h1, h2, h3]; rfl
  have close3 : goodT ts a = true → mayBad r b t = false → mayUp ts r b mu a = false → ∀ f, freeB ts r a (!mu) = f → mayE ts r b t mu a = (if f = true then 0 else 5) := fun h1 h2 h3 f h4 => by unfold mayE; rw [h1, h2, h3, h4]; rfl
  cases h0 : (a == 0) with
  | true =>
    have ea : a = 0 := by simpa using h0
    have hga : goodB (bkT ts) a = false := by rw [ea]; rfl
    have hg : goodT ts a = true := by unfold goodT; rw [h0]; rfl
    cases h2 : decide (b ≥ 8) with
    | true =>
      have e := close1 hg (by unfold mayBad; simp only [h2, Bool.or_true, Bool.true_or, Bool.false_or])
      simp only [hs, hga, e, h2, beqT, beqF, bne, Bool.or_true, Bool.or_false, Bool.true_or, Bool.false_or, Bool.true_and, Bool.false_and, Bool.not_true, Bool.not_false, true_implies, Bool.true_eq_false, Bool.false_eq_true, false_implies, and_true, true_and, if_true, if_false]
      repeat' first | exact hb | exact h | exact ha'.1 | exact ha'.2 | exact trivial | omega | apply And.intro
    | false =>
      cases h3 : decide (t ≥ 8) with
      | true =>
        have e := close1 hg (by unfold mayBad; simp only [h2, h3, Bool.or_true, Bool.true_or, Bool.false_or])
        simp only [hs, hga, e, h2, h3, beqT, beqF, bne, Bool.or_true, Bool.or_false, Bool.true_or, Bool.false_or, Bool.true_and, Bool.false_and, Bool.not_true, Bool.not_false, true_implies, Bool.true_eq_false, Bool.false_eq_true, false_implies, and_true, true_and, if_true, if_false]
        repeat' first | exact hb | exact h | exact ha'.1 | exact ha'.2 | exact trivial | omega | apply And.intro
      | false =>
        cases h4 : (b == t) with
        | true =>
          have e := close1 hg (by unfold mayBad; simp only [h2, h3, h4, Bool.or_true, Bool.true_or, Bool.false_or])
          simp only [hs, hga, e, h2, h3, h4, beqT, beqF, bne, Bool.or_true, Bool.or_false, Bool.true_or, Bool.false_or, Bool.true_and, Bool.false_and, Bool.not_true, Bool.not_false, true_implies, Bool.true_eq_false, Bool.false_eq_true, false_implies, and_true, true_and, if_true, if_false]
          repeat' first | exact hb | exact h | exact ha'.1 | exact ha'.2 | exact trivial | omega | apply And.intro
        | false =>
          cases h5 : (r == 0) with
          | true =>
            have e := close1 hg (by unfold mayBad; simp only [h2, h3, h4, h5, Bool.or_true, Bool.true_or, Bool.false_or])
            simp only [hs, hga, e, h2, h3, h4, h5, beqT, beqF, bne, Bool.or_true, Bool.or_false, Bool.true_or, Bool.false_or, Bool.true_and, Bool.false_and, Bool.not_true, Bool.not_false, true_implies, Bool.true_eq_false, Bool.false_eq_true, false_implies, and_true, true_and, if_true, if_false]
            repeat' first | exact hb | exact h | exact ha'.1 | exact ha'.2 | exact trivial | omega | apply And.intro
          | false =>
            have hbad : mayBad r b t = false := by unfold mayBad; simp only [h2, h3, h4, h5, Bool.or_false]
            have hup : mayUp ts r b mu a = false := by unfold mayUp; rw [hga]; rfl
            cases h6 : freeB ts r a (!mu) with
            | true =>
              have e := close3 hg hbad hup _ h6
              simp only [hs, hga, h2, h3, h4, h5, e, h6, beqT, beqF, bne, Bool.or_true, Bool.or_false, Bool.true_or, Bool.false_or, Bool.true_and, Bool.false_and, Bool.not_true, Bool.not_false, true_implies, Bool.true_eq_false, Bool.false_eq_true, false_implies, and_true, true_and, if_true, if_false]
              repeat' first | exact hb | exact h | exact ha'.1 | exact ha'.2 | exact trivial | omega | apply And.intro
            | false =>
              have e := close3 hg hbad hup _ h6
              simp only [hs, hga, h2, h3, h4, h5, e, h6, beqT, beqF, bne, Bool.or_true, Bool.or_false, Bool.true_or, Bool.false_or, Bool.true_and, Bool.false_and, Bool.not_true, Bool.not_false, true_implies, Bool.true_eq_false, Bool.false_eq_true, false_implies, and_true, true_and, if_true, if_false]
              repeat' first | exact hb | exact h | exact ha'.1 | exact ha'.2 | exact trivial | omega | apply And.intro
  | false =>
    cases hga : goodB (bkT ts) a with
    | false =>
      have e : mayE ts r b t mu a = 4 := by unfold mayE goodT; rw [h0, hga]; rfl
      simp only [hs, e, beqT, beqF, bne, Bool.or_true, Bool.or_false, Bool.true_or, Bool.false_or, Bool.true_and, Bool.false_and, Bool.not_true, Bool.not_false, true_implies, Bool.true_eq_false, Bool.false_eq_true, false_implies, and_true, true_and, if_true, if_false]
      repeat' first | exact hb | exact h | exact ha'.1 | exact ha'.2 | exact trivial | omega | apply And.intro
    | true =>
      have hg : goodT ts a = true := by unfold goodT; rw [hga, Bool.or_true]
      obtain ⟨s1, s2, s3, s4, s5, s6, s7, s8⟩ := good_slot h hga
      have tk := h.tk _ s3
      have i0 : intAt ts (64 + sl a * 5) = tR ts (sl a) := tk5_int hs s3 (j := 0) (by omega)
      have i2 : intAt ts (64 + sl a * 5 + 2) = tT ts (sl a) := tk5_int hs s3 (j := 2) (by omega)
      have i3 : boolAt ts (64 + sl a * 5 + 3) = tM ts (sl a) := tk5_bool hs s3 (j := 3) (by omega)
      have tk0 : IsInt .u32 ts (64 + sl a * 5) := tk5_isI hs s3 (j := 0) (by omega) tk.r
      have tk1 := tk5_isI hs s3 (by omega) tk.b
      have tk2 := tk5_isI hs s3 (by omega) tk.t
      have tk3 := tk5_isB hs s3 (by omega) tk.m
      have tk4 := tk5_isI hs s3 (by omega) tk.a
      cases h2 : decide (b ≥ 8) with
      | true =>
        have e := close1 hg (by unfold mayBad; simp only [h2, Bool.or_true, Bool.true_or, Bool.false_or])
        simp only [hs, s4, i0, i2, i3, e, h2, beqT, beqF, bne, Bool.or_true, Bool.or_false, Bool.true_or, Bool.false_or, Bool.true_and, Bool.false_and, Bool.not_true, Bool.not_false, true_implies, Bool.true_eq_false, Bool.false_eq_true, false_implies, and_true, true_and, if_true, if_false]
        repeat' first | exact hb | exact h | exact ha'.1 | exact ha'.2 | exact trivial | exact tk0 | exact tk1 | exact tk2 | exact tk3 | exact tk4 | omega | apply And.intro
      | false =>
        cases h3 : decide (t ≥ 8) with
        | true =>
          have e := close1 hg (by unfold mayBad; simp only [h2, h3, Bool.or_true, Bool.true_or, Bool.false_or])
          simp only [hs, s4, i0, i2, i3, e, h2, h3, beqT, beqF, bne, Bool.or_true, Bool.or_false, Bool.true_or, Bool.false_or, Bool.true_and, Bool.false_and, Bool.not_true, Bool.not_false, true_implies, Bool.true_eq_false, Bool.false_eq_true, false_implies, and_true, true_and, if_true, if_false]
          repeat' first | exact hb | exact h | exact ha'.1 | exact ha'.2 | exact trivial | exact tk0 | exact tk1 | exact tk2 | exact tk3 | exact tk4 | omega | apply And.intro
        | false =>
          cases h4 : (b == t) with
          | true =>
            have e := close1 hg (by unfold mayBad; simp only [h2, h3, h4, Bool.or_true, Bool.true_or, Bool.false_or])
            simp only [hs, s4, i0, i2, i3, e, h2, h3, h4, beqT, beqF, bne, Bool.or_true, Bool.or_false, Bool.true_or, Bool.false_or, Bool.true_and, Bool.false_and, Bool.not_true, Bool.not_false, true_implies, Bool.true_eq_false, Bool.false_eq_true, false_implies, and_true, true_and, if_true, if_false]
            repeat' first | exact hb | exact h | exact ha'.1 | exact ha'.2 | exact trivial | exact tk0 | exact tk1 | exact tk2 | exact tk3 | exact tk4 | omega | apply And.intro
          | false =>
            cases h5 : (r == 0) with
            | true =>
              have e := close1 hg (by unfold mayBad; simp only [h2, h3, h4, h5, Bool.or_true, Bool.true_or, Bool.false_or])
              simp only [hs, s4, i0, i2, i3, e, h2, h3, h4, h5, beqT, beqF, bne, Bool.or_true, Bool.or_false, Bool.true_or, Bool.false_or, Bool.true_and, Bool.false_and, Bool.not_true, Bool.not_false, true_implies, Bool.true_eq_false, Bool.false_eq_true, false_implies, and_true, true_and, if_true, if_false]
              repeat' first | exact hb | exact h | exact ha'.1 | exact ha'.2 | exact trivial | exact tk0 | exact tk1 | exact tk2 | exact tk3 | exact tk4 | omega | apply And.intro
            | false =>
              have hbad : mayBad r b t = false := by unfold mayBad; simp only [h2, h3, h4, h5, Bool.or_false]
              cases h6 : (tR ts (sl a) == r) with
              | false =>
                have hup : mayUp ts r b mu a = true := by unfold mayUp; simp only [hga, h6, bne, beqT, beqF, Bool.or_true, Bool.or_false, Bool.true_or, Bool.false_or, Bool.true_and, Bool.false_and, Bool.and_true, Bool.and_false, Bool.not_true, Bool.not_false]
                have e := close2 hg hbad hup
                simp only [hs, s4, i0, i2, i3, h2, h3, h4, h5, e, h6, beqT, beqF, bne, Bool.or_true, Bool.or_false, Bool.true_or, Bool.false_or, Bool.true_and, Bool.false_and, Bool.not_true, Bool.not_false, true_implies, Bool.true_eq_false, Bool.false_eq_true, false_implies, and_true, true_and, if_true, if_false]
                repeat' first | exact hb | exact h | exact ha'.1 | exact ha'.2 | exact trivial | exact tk0 | exact tk1 | exact tk2 | exact tk3 | exact tk4 | omega | apply And.intro
              | true =>
                cases h7 : (tT ts (sl a) == b) with
                | false =>
                  have hup : mayUp ts r b mu a = true := by unfold mayUp; simp only [hga, h6, h7, bne, beqT, beqF, Bool.or_true, Bool.or_false, Bool.true_or, Bool.false_or, Bool.true_and, Bool.false_and, Bool.and_true, Bool.and_false, Bool.not_true, Bool.not_false]
                  have e := close2 hg hbad hup
                  simp only [hs, s4, i0, i2, i3, h2, h3, h4, h5, e, h6, h7, beqT, beqF, bne, Bool.or_true, Bool.or_false, Bool.true_or, Bool.false_or, Bool.true_and, Bool.false_and, Bool.not_true, Bool.not_false, true_implies, Bool.true_eq_false, Bool.false_eq_true, false_implies, and_true, true_and, if_true, if_false]
                  repeat' first | exact hb | exact h | exact ha'.1 | exact ha'.2 | exact trivial | exact tk0 | exact tk1 | exact tk2 | exact tk3 | exact tk4 | omega | apply And.intro
                | true =>
                  cases h8 : mu <;> cases h9 : tM ts (sl a)
                  · have hup : mayUp ts r b mu a = false := by unfold mayUp; simp only [hga, h6, h7, h8, h9, bne, beqT, beqF, Bool.or_true, Bool.or_false, Bool.true_or, Bool.false_or, Bool.true_and, Bool.false_and, Bool.and_true, Bool.and_false, Bool.not_true, Bool.not_false]
                    cases h10 : freeB ts r a (!mu)
                    all_goals
                      have e := close3 hg hbad hup _ h10
                      rw [h8] at h10 e
                      simp only [Bool.not_true, Bool.not_false] at h10 e
                      simp only [hs, s4, i0, i2, i3, h2, h3, h4, h5, e, h6, h7, h9, h10, beqT, beqF, bne, Bool.or_true, Bool.or_false, Bool.true_or, Bool.false_or, Bool.true_and, Bool.false_and, Bool.not_true, Bool.not_false, true_implies, Bool.true_eq_false, Bool.false_eq_true, false_implies, and_true, true_and, if_true, if_false]
                      repeat' first | exact hb | exact h | exact ha'.1 | exact ha'.2 | exact trivial | exact tk0 | exact tk1 | exact tk2 | exact tk3 | exact tk4 | omega | apply And.intro
                  · have hup : mayUp ts r b mu a = false := by unfold mayUp; simp only [hga, h6, h7, h8, h9, bne, beqT, beqF, Bool.or_true, Bool.or_false, Bool.true_or, Bool.false_or, Bool.true_and, Bool.false_and, Bool.and_true, Bool.and_false, Bool.not_true, Bool.not_false]
                    cases h10 : freeB ts r a (!mu)
                    all_goals
                      have e := close3 hg hbad hup _ h10
                      rw [h8] at h10 e
                      simp only [Bool.not_true, Bool.not_false] at h10 e
                      simp only [hs, s4, i0, i2, i3, h2, h3, h4, h5, e, h6, h7, h9, h10, beqT, beqF, bne, Bool.or_true, Bool.or_false, Bool.true_or, Bool.false_or, Bool.true_and, Bool.false_and, Bool.not_true, Bool.not_false, true_implies, Bool.true_eq_false, Bool.false_eq_true, false_implies, and_true, true_and, if_true, if_false]
                      repeat' first | exact hb | exact h | exact ha'.1 | exact ha'.2 | exact trivial | exact tk0 | exact tk1 | exact tk2 | exact tk3 | exact tk4 | omega | apply And.intro
                  · have hup : mayUp ts r b mu a = true := by unfold mayUp; simp only [hga, h6, h7, h8, h9, bne, beqT, beqF, Bool.or_true, Bool.or_false, Bool.true_or, Bool.false_or, Bool.true_and, Bool.false_and, Bool.and_true, Bool.and_false, Bool.not_true, Bool.not_false]
                    have e := close2 hg hbad hup
                    rw [h8] at e
                    simp only [hs, s4, i0, i2, i3, h2, h3, h4, h5, e, h6, h7, h9, beqT, beqF, bne, Bool.or_true, Bool.or_false, Bool.true_or, Bool.false_or, Bool.true_and, Bool.false_and, Bool.not_true, Bool.not_false, true_implies, Bool.true_eq_false, Bool.false_eq_true, false_implies, and_true, true_and, if_true, if_false]
                    repeat' first | exact hb | exact h | exact ha'.1 | exact ha'.2 | exact trivial | exact tk0 | exact tk1 | exact tk2 | exact tk3 | exact tk4 | omega | apply And.intro
                  · have hup : mayUp ts r b mu a = false := by unfold mayUp; simp only [hga, h6, h7, h8, h9, bne, beqT, beqF, Bool.or_true, Bool.or_false, Bool.true_or, Bool.false_or, Bool.true_and, Bool.false_and, Bool.and_true, Bool.and_false, Bool.not_true, Bool.not_false]
                    cases h10 : freeB ts r a (!mu)
                    all_goals
                      have e := close3 hg hbad hup _ h10
                      rw [h8] at h10 e
                      simp only [Bool.not_true, Bool.not_false] at h10 e
                      simp only [hs, s4, i0, i2, i3, h2, h3, h4, h5, e, h6, h7, h9, h10, beqT, beqF, bne, Bool.or_true, Bool.or_false, Bool.true_or, Bool.false_or, Bool.true_and, Bool.false_and, Bool.not_true, Bool.not_false, true_implies, Bool.true_eq_false, Bool.false_eq_true, false_implies, and_true, true_and, if_true, if_false]
                      repeat' first | exact hb | exact h | exact ha'.1 | exact ha'.2 | exact trivial | exact tk0 | exact tk1 | exact tk2 | exact tk3 | exact tk4 | omega | apply And.intro
def clrT (ts : Array Value) (h : Int) : Array Value := putAt (putAt ts 0 (voidB (bkT ts) h).toList) (64 + sl h * 5) [.int .u32 0, .int .u8 0, .int .u8 0, .bool false, .int .u32 0]
def outT (ts : Array Value) (l : List Int) : Nat → Array Value
  | 0 => ts
  | i + 1 => clrT (outT ts l i) (l.getD i 0)
theorem put_bk {bs : Array Value} (hs : ts.size = 144) (hz : bs.size = 64) : (putAt ts 0 bs.toList).size = 144 ∧ bkT (putAt ts 0 bs.toList) = bs ∧ ∀ i, i < 16 → tk5 (putAt ts 0 bs.toList) i = tk5 ts i := by
  have hl : bs.toList.length = 64 := by simpa using hz
  have h1 : (putAt ts 0 bs.toList).size = 144 := by rw [putAt_size (by omega)]; exact hs
  refine ⟨h1, ?_, fun i hi => ?_⟩
  · apply Array.ext_getElem?
    intro j
    unfold bkT
    by_cases c : j < 64
    · rw [ext_get (by omega) (by omega), putAt_in (by omega) (by omega) (by omega), Array.getElem?_toList]
      congr 1
      omega
    · rw [Array.getElem?_eq_none (by rw [ext_size (by omega)]; omega), Array.getElem?_eq_none (by omega)]
  · apply Array.ext_getElem?
    intro j
    by_cases c : j < 5
    · rw [tk5_get h1 hi c, tk5_get hs hi c, putAt_out (by omega) (by omega)]
    · rw [Array.getElem?_eq_none (by rw [tk5_size h1 hi]; omega), Array.getElem?_eq_none (by rw [tk5_size hs hi]; omega)]
theorem put_tk (hs : ts.size = 144) {q : Nat} (hq : q < 16) {l : List Value} (hl : l.length = 5) : (putAt ts (64 + q * 5) l).size = 144 ∧ bkT (putAt ts (64 + q * 5) l) = bkT ts ∧ ∀ i, i < 16 → tk5 (putAt ts (64 + q * 5) l) i = if i = q then l.toArray else tk5 ts i := by
  have h1 : (putAt ts (64 + q * 5) l).size = 144 := by rw [putAt_size (by omega)]; exact hs
  refine ⟨h1, ?_, fun i hi => ?_⟩
  · apply Array.ext_getElem?
    intro j
    unfold bkT
    by_cases c : j < 64
    · rw [ext_get (by omega) (by omega), ext_get (by omega) (by omega), putAt_out (by omega) (by omega)]
    · rw [Array.getElem?_eq_none (by rw [ext_size (by omega)]; omega), Array.getElem?_eq_none (by rw [ext_size (by omega)]; omega)]
  · apply Array.ext_getElem?
    intro j
    by_cases c : j < 5
    · rw [tk5_get h1 hi c]
      by_cases e : i = q
      · rw [if_pos e, e, putAt_in (by omega) (by omega) (by omega), List.getElem?_toArray]
        congr 1
        omega
      · rw [if_neg e, tk5_get hs hi c, putAt_out (by omega) (by omega)]
    · rw [Array.getElem?_eq_none (by rw [tk5_size h1 hi]; omega)]
      split
      · rw [Array.getElem?_eq_none (by rw [List.size_toArray]; omega)]
      · rw [Array.getElem?_eq_none (by rw [tk5_size hs hi]; omega)]
theorem zero_tk : TkIs (#[.int .u32 0, .int .u8 0, .int .u8 0, .bool false, .int .u32 0]) := ⟨rfl, rfl, rfl, rfl, rfl, ⟨by decide, by decide⟩, ⟨by decide, by decide⟩, ⟨by decide, by decide⟩, ⟨by decide, by decide⟩⟩
theorem clr_facts (h : TsOk ts) {x : Int} (hx : inH x) (hs16 : sl x < 16) : TsOk (clrT ts x) ∧ bkT (clrT ts x) = voidB (bkT ts) x ∧ ∀ i, i < 16 → tk5 (clrT ts x) i = if i = sl x then #[.int .u32 0, .int .u8 0, .int .u8 0, .bool false, .int .u32 0] else tk5 ts i := by
  have hv := void_bk h.bk x
  obtain ⟨a1, a2, a3⟩ := put_bk (bs := voidB (bkT ts) x) h.sz hv.sz
  obtain ⟨b1, b2, b3⟩ := put_tk (q := sl x) (l := [.int .u32 0, .int .u8 0, .int .u8 0, .bool false, .int .u32 0]) a1 hs16 rfl
  have e2 : bkT (clrT ts x) = voidB (bkT ts) x := b2.trans a2
  have e3 : ∀ i, i < 16 → tk5 (clrT ts x) i = if i = sl x then #[.int .u32 0, .int .u8 0, .int .u8 0, .bool false, .int .u32 0] else tk5 ts i := fun i hi => by
    show tk5 (putAt _ _ _) i = _
    rw [b3 i hi]
    split
    · rfl
    · exact a3 i hi
  refine ⟨⟨b1, by rw [e2]; exact hv, fun i hi => ?_, fun i h1 h2 => ?_⟩, e2, e3⟩
  · rw [e3 i hi]
    split
    · exact zero_tk
    · exact h.tk i hi
  · rw [e2]
    rcases void_cases h.bk x with ⟨_, e⟩ | ⟨j, hj, hk, _, _, e⟩
    · rw [e]; exact h.hi i h1 h2
    · rw [e, void_kind h.bk.sz hj]
      split
      · rename_i c
        rw [← c, h.hi i h1 h2] at hk
        cases hk
      · exact h.hi i h1 h2
def HsOk (l : List Int) : Prop := ∀ x ∈ l, inH x ∧ slotI x < 16
theorem outT_ok (h : TsOk ts) {l : List Int} (hl : HsOk l) : ∀ i, i ≤ l.length → TsOk (outT ts l i)
  | 0, _ => h
  | i + 1, hi => by
    have hx := hl (l.getD i 0) (by rw [List.getD_eq_getElem?_getD, List.getElem?_eq_getElem (by omega)]; exact List.getElem_mem _)
    unfold outT
    exact (clr_facts (outT_ok h hl i (by omega)) hx.1 (by have := slotI_lt hx.1; unfold sl; omega)).1
theorem u32s_at {l : List Int} {i : Nat} (hi : i < l.length) : (u32s l)[i]? = some (.int .u32 (l.getD i 0)) := by
  unfold u32s
  rw [List.getElem?_toArray, List.getElem?_map, List.getElem?_eq_getElem hi, List.getD_eq_getElem?_getD, List.getElem?_eq_getElem hi]
  rfl
theorem wL_ok (h : TsOk ts) {l : List Int} (hl : HsOk l) (hn : l.length ≤ 32) {zz : Array Value} (hz : zz.size = 144) : ∀ (k i : Nat), i + k = l.length → Good Try.prog (retOk 1 [] (tkS (outT ts l l.length)) (rwM (u32s l))) 1 (wL_F l.length (u32s l) (i : Int) (outT ts l i) zz) (wL_M l.length (u32s l) (i : Int) (outT ts l i) zz) := by
  intro k
  induction k with
  | zero =>
    intro i hi
    obtain rfl : i = l.length := by omega
    refine past_vc ET_ok 1000 (w1 l.length (u32s l) (l.length : Nat) (outT ts l l.length) zz (outT ts l l.length) (fun _ _ _ => False)) ?_ (fun _ _ h => h) (fun fs m hb => wL_good (fun _ _ _ h => h.elim) hb)
    have d : decide (((l.length : Nat) : Int) < (l.length : Int)) = false := decide_eq_false (by omega)
    have ho := (outT_ok h hl l.length (Nat.le_refl _)).sz
    simp only [d, ho, hz, true_implies, Bool.true_eq_false, Bool.false_eq_true, false_implies, and_true, true_and]
  | succ k ih =>
    intro i hi
    refine past_vc ET_ok 1000 (w1 l.length (u32s l) (i : Int) (outT ts l i) zz (outT ts l l.length) (fun i' t' z' => i' = ((i + 1 : Nat) : Int) ∧ t' = outT ts l (i + 1) ∧ z' = zz)) ?_ (fun _ _ h => h)
      (fun fs m hb => wL_good (fun i' t' z' ⟨e1, e2, e3⟩ => by rw [e1, e2, e3]; exact ih (i + 1) (by omega)) hb)
    have d : decide ((i : Int) < (l.length : Int)) = true := decide_eq_true (by omega)
    have ei : ari .add .i64 (i : Int) 1 = ((i + 1 : Nat) : Int) := by rw [ari_add, i64_in' (by omega) (by omega)]; omega
    have hi' : i < l.length := by omega
    have hu := u32s_at hi'
    have hx := hl (l.getD i 0) (by rw [List.getD_eq_getElem?_getD, List.getElem?_eq_getElem hi']; exact List.getElem_mem _)
    have ho := outT_ok h hl i (by omega)
    have hv := (void_bk ho.bk (l.getD i 0)).sz
    have hos := ho.sz
    have hvs : (voidB (bkT (outT ts l i)) (l.getD i 0)).toList.length = 64 := by simpa using hv
    have hp : (putAt (outT ts l i) 0 (voidB (bkT (outT ts l i)) (l.getD i 0)).toList).size = 144 := (put_bk hos hv).1
    obtain ⟨s1, s2⟩ := slotI_lt hx.1
    have hbk : BkOk (bkT (outT ts l i)) := ho.bk
    simp only [d, ei, bk_fold, Nat.zero_add, Nat.mul_one, Int.toNat_natCast, intAt_of hu, hv, hp, hos, true_implies, Bool.true_eq_false, Bool.false_eq_true, false_implies, and_true, true_and, wL_d0_ok]
    exact ⟨⟨by omega, by omega⟩, isI_of hu, hx.1, by omega, ⟨hbk, hx.1⟩, by omega, ⟨s1, hx.2⟩, by omega, rfl⟩
theorem fn30 : E0.fn 30 = some Try.f30 := by kernel_rfl
theorem body30 : Try.f30.body = some (Try.f30.body.getD .skip) := by kernel_rfl
theorem out_con {m : SMem} {i : Nat} {n : SN} {l : List Int} {wr : Bool} (hn : n.den = l.length) (hb : getB m.bl i = some ⟨.pop (u32s l), 30, wr⟩) : Con E0 30 [tkS ts, .s (.c (.f (.slice i (.l 0) n (.full 1))))] m (needs [TsOk ts, HsOk l, l.length ≤ 32] (.ret (tkS (outT ts l l.length)) m)) := by
  refine Con.readV E0_ok (l' := [tkS ts, rwS l.length]) (ms := rwM (u32s l)) (A := fun s m => s = tkS (outT ts l l.length) ∧ m = rwM (u32s l)) fn30 body30 rfl (fun _ => i) ?_ ?_ (fun hq => ?_) ?_
  · intro j b hj
    cases j with
    | zero => cases hj; exact ⟨Nat.zero_lt_one, rfl, _, hb, rfl, fun R cs' h => h⟩
    | succ j =>
      have hj : (Tr.node .nil (some ⟨.pop (u32s l), 30, false⟩) .nil : Tr SBlk).get (j + 1) = some b := hj
      rw [Tr.get_succ, Tr.get_nil, ite_self] at hj
      cases hj
  · intro R vs ha
    match vs, ha with
    | [u, x], ha =>
      obtain ⟨h0, ⟨gl, cp, e1, e2, e3, e4⟩, _⟩ := ha
      refine ⟨h0, ⟨gl, cp, by unfold pull; exact e1, ?_, e3, ?_⟩, trivial⟩
      · rw [e2, hn]
      · rw [hn] at e4; exact e4
  · have h : TsOk ts := hq _ (by simp)
    have hl : HsOk l := hq _ (by simp)
    have hlen : l.length ≤ 32 := hq _ (by simp)
    refine Good.ret [] (run_vc ET_ok 1000 (w0_vc ts l.length (u32s l) (fun i t z => i = ((0 : Nat) : Int) ∧ t = outT ts l 0 ∧ z.size = 144)) ?_ (fun s m h => h.elim) fun fs m hb => w0_go (fun i t z ⟨e1, e2, e3⟩ => by rw [e1, e2]; exact wL_ok h hl hlen e3 l.length 0 (by omega)) hb)
    simp only [h.sz, and_true, true_and, wL_d0_ok]
    repeat' first | exact rfl | exact trivial | omega | apply And.intro
  · rintro s m' R R' v ⟨rfl, _⟩ hv
    exact hv
theorem out_none (m : SMem) : Con E0 30 [tkS ts, .s (.c (.f (.lit (.slice none 0 0))))] m (needs [TsOk ts] (.ret (tkS ts) m)) := by
  refine Con.pure E0_ok fn30 body30 (by kernel_rfl) (by kernel_rfl) fun hq => ?_
  have h : TsOk ts := hq _ (by simp)
  refine (Good.ret [] (run_vc EU_ok 1000 (wN ts ts) ?_ (fun s m h => h) fun _ _ h => h.elim)).mono fun _ _ h => h.1
  simp only [h.sz, and_true, true_and]
end
end Go.Proofs.Ytnjmockpdmchcaa
/- Of token: what is below one: its states. No condition. -/
namespace Go.Proofs.Ytnjmockpdmchcaa
set_option linter.unusedVariables false
def kidsT (ts : Array Value) (h : Int) : List Int := whL (bkT ts) (cP ts h) 16
def meetL (ts : Array Value) : Nat → Int → List (Int × Int) → List (Int × Int)
  | 0, _, gs => gs
  | n + 1, h, gs => (kidsT ts h).foldl (fun g k => meetL ts n k g) (insI h 1 gs)
def Deep (ts : Array Value) : Nat → Int → Prop
  | 0, _ => False
  | n + 1, h => ∀ k ∈ kidsT ts h, Deep ts n k
noncomputable def conM (n : Nat) (g : FuncId) (l : List SV) (m : SMem) : Option Tree := match g, l with
  | 26, [.s (.c (.f (.int .u32 h))), .s (.c (.f (.ptr i0 (.l 0)))), .s (.c (.f (.ptr i1 (.l 0)))), .s (.c (.f (.ptr i2 (.l 0))))] => (match getB m.bl i0, getB m.bl i1, getB m.bl i2 with
    | some ⟨.ls [.f (.mp q)], 74, _⟩, some ⟨.op ts, 35, _⟩, some ⟨.ls [.fn (.func 26) [] [.ptr j0 (.l 0), .ptr j1 (.l 0), .ptr j2 (.l 0)]], 75, _⟩ => (match getX m.xs q, Nat.beq i0 j0 && (Nat.beq i1 j1 && Nat.beq i2 j2) with
      | some (.mapI true .u32 (.i .i64) gs), true => some (.need [TsOk ts, inH h.den, Deep ts n h.den] (.ret (.tup []) ⟨m.next, m.bl, putX m.xs q (.mapI true .u32 (.i .i64) (meetL ts n h.den gs))⟩))
      | _, _ => none)
    | _, _, _ => none)
  | g, l => conT1 g l m
noncomputable def EMt (n : Nat) : Env := ⟨Try.prog, fnOf, conM n, haltAt [26004]⟩
noncomputable def mcS : SC := .fn (.func 26) [] [.ptr 0 (.l 0), .ptr 1 (.l 0), .ptr 2 (.l 0)]
noncomputable def mL_d0 : List SIt := sekF Try.f26 4
noncomputable def mL_F (ts : Array Value) (k : Nat) (rs : Array Value) (i : Int) (gs : List (Int × Int)) : List SFr := [frOf 26 Try.f26 [(1, ptr 0 (.l 0)), (2, ptr 1 (.l 0)), (3, ptr 2 (.l 0)), (11, .s (.c (.f (.slice 5 (.l 0) (.o k) (.full 1))))), (12, i64 (.o (k : Int))), (13, i64 (.o i))] mL_d0]
noncomputable def mL_M (ts : Array Value) (k : Nat) (rs : Array Value) (i : Int) (gs : List (Int × Int)) : SMem := mkMX 6 [(0, ⟨.ls [.f (.mp 3)], 74, false⟩), (1, ⟨.op ts, 35, false⟩), (2, ⟨.ls [mcS], 75, false⟩), (5, ⟨.pop rs, 30, true⟩)] [(3, .mapI true .u32 (.i .i64) gs)]
noncomputable def mL_n (ts : Array Value) (k : Nat) (rs : Array Value) (Q : Int → List (Int × Int) → Prop) (fs : List SFr) (m : SMem) : Prop := (match frNth fs 0 with | some f0 => (match rdI f0 13 with | some i => (match rdSI f0 11 with | some p5 => (match rdMI m 3 with | some gs => Q i gs ∧ subOk 4 [(5, p5)] (mL_F ts k rs i gs) (mL_M ts k rs i gs) fs m | none => False) | none => False) | none => False) | none => False)
noncomputable def mM (ts : Array Value) (gs : List (Int × Int)) : SMem := mkMX 4 [(0, ⟨.ls [.f (.mp 3)], 74, false⟩), (1, ⟨.op ts, 35, false⟩), (2, ⟨.ls [mcS], 75, false⟩)] [(3, .mapI true .u32 (.i .i64) gs)]
noncomputable def mRet (g : List (Int × Int)) (s : SV) (m : SMem) : Prop := match s, getX m.xs 3 with | .tup [], some (.mapI true .u32 (.i .i64) gs) => gs = g | _, _ => False
theorem mL_d0_ok (r : Nat → Option Nat) : TodoOk r mL_d0 mL_d0 := TodoOk.it (by kernel_rfl)
theorem mL_good {A : SV → SMem → Prop} {ts : Array Value} {k : Nat} {rs : Array Value} {Q : Int → List (Int × Int) → Prop} {fs : List SFr} {m : SMem} (H : ∀ i gs, Q i gs → Good Try.prog A 4 (mL_F ts k rs i gs) (mL_M ts k rs i gs)) (hb : mL_n ts k rs Q fs m) : Good Try.prog A 4 fs m := by
  unfold mL_n at hb
  split at hb
  rotate_left
  · exact hb.elim
  split at hb
  rotate_left
  · exact hb.elim
  split at hb
  rotate_left
  · exact hb.elim
  split at hb
  rotate_left
  · exact hb.elim
  exact Good.of_sub hb.2 (H _ _ hb.1)
end Go.Proofs.Ytnjmockpdmchcaa
/- Of token: what is below one: its states. -/
namespace Go.Proofs.Ytnjmockpdmchcaa
set_option maxRecDepth 100000
theorem mS (n : Nat) (ts : Array Value) (h : Int) (gs gF : List (Int × Int)) (k : Nat) (rs : Array Value) (Q : Int → List (Int × Int) → Prop) : (run (EMt n) 1000 4 [callFr 26 Try.f26.ntmps [u32 h, ptr 0 (.l 0), ptr 1 (.l 0), ptr 2 (.l 0)] (Try.f26.body.getD .skip)] (mM ts gs)).vc (mRet gF) (mL_n ts k rs Q) =
    ((Array.size ts = (144 : Nat) ∧ True) ∧ (TsOk ts ∧ True) ∧ (decide (List.length (whL (bkT ts) (cP ts h) (16 : Nat)) = (0 : Nat)) = true → insI h (1 : Int) gs = gF) ∧ (decide (List.length (whL (bkT ts) (cP ts h) (16 : Nat)) = (0 : Nat)) = false → (decide ((0 : Int) < (↑(List.length (whL (bkT ts) (cP ts h) (16 : Nat))) : Int)) = true → Q (0 : Int) (insI h (1 : Int) gs) ∧ CallKind.normal = CallKind.normal ∧ TodoOk (ren 4 [(5, 5)]) mL_d0 mL_d0 ∧ k = List.length (whL (bkT ts) (cP ts h) (16 : Nat)) ∧ (0 : Int) = (0 : Int) ∧ (↑k : Int) = (↑(List.length (whL (bkT ts) (cP ts h) (16 : Nat))) : Int) ∧ (74 : TypeId) = (74 : TypeId) ∧ (35 : TypeId) = (35 : TypeId) ∧ ts = ts ∧ (30 : TypeId) = (30 : TypeId) ∧ rs = u32s (whL (bkT ts) (cP ts h) (16 : Nat)) ∧ (75 : TypeId) = (75 : TypeId) ∧ Fn.func (26 : Nat) = Fn.func (26 : Nat) ∧ IntKind.u32 = IntKind.u32 ∧ VK.i IntKind.i64 = VK.i IntKind.i64 ∧ insI h (1 : Int) gs = insI h (1 : Int) gs ∧ True) ∧ (decide ((0 : Int) < (↑(List.length (whL (bkT ts) (cP ts h) (16 : Nat))) : Int)) = false → insI h (1 : Int) gs = gF))) := by kernel_rfl
theorem m1 (n : Nat) (ts : Array Value) (k : Nat) (rs : Array Value) (i : Int) (gs gF : List (Int × Int)) (Q : Int → List (Int × Int) → Prop) : (stepT (EMt n).go (run (EMt n) 1000) 4 (mL_F ts k rs i gs) (mL_M ts k rs i gs)).vc (mRet gF) (mL_n ts k rs Q) =
    ((((0 : Int) ≤ i ∧ i < (↑k : Int)) ∧ True) ∧ (IsInt IntKind.u32 rs ((0 : Nat) + Int.toNat i * (1 : Nat)) ∧ True) ∧ (TsOk ts ∧ ((0 : Int) ≤ intAt rs ((0 : Nat) + Int.toNat i * (1 : Nat)) ∧ intAt rs ((0 : Nat) + Int.toNat i * (1 : Nat)) < (4294967296 : Int)) ∧ Deep ts n (intAt rs ((0 : Nat) + Int.toNat i * (1 : Nat))) ∧ True) ∧ (decide (ari BinOp.add IntKind.i64 i (1 : Int) < (↑k : Int)) = true → Q (ari BinOp.add IntKind.i64 i (1 : Int)) (meetL ts n (intAt rs ((0 : Nat) + Int.toNat i * (1 : Nat))) gs) ∧ CallKind.normal = CallKind.normal ∧ TodoOk (ren 4 [(5, 5)]) mL_d0 mL_d0 ∧ k = k ∧ ari BinOp.add IntKind.i64 i (1 : Int) = ari BinOp.add IntKind.i64 i (1 : Int) ∧ (↑k : Int) = (↑k : Int) ∧ (74 : TypeId) = (74 : TypeId) ∧ (35 : TypeId) = (35 : TypeId) ∧ ts = ts ∧ (30 : TypeId) = (30 : TypeId) ∧ rs = rs ∧ (75 : TypeId) = (75 : TypeId) ∧ Fn.func (26 : Nat) = Fn.func (26 : Nat) ∧ IntKind.u32 = IntKind.u32 ∧ VK.i IntKind.i64 = VK.i IntKind.i64 ∧ meetL ts n (intAt rs ((0 : Nat) + Int.toNat i * (1 : Nat))) gs = meetL ts n (intAt rs ((0 : Nat) + Int.toNat i * (1 : Nat))) gs ∧ True) ∧ (decide (ari BinOp.add IntKind.i64 i (1 : Int) < (↑k : Int)) = false → meetL ts n (intAt rs ((0 : Nat) + Int.toNat i * (1 : Nat))) gs = gF)) := by kernel_rfl
end Go.Proofs.Ytnjmockpdmchcaa
/- Of token: the contract of what is below one. No condition. -/
namespace Go.Proofs.Ytnjmockpdmchcaa
set_option maxRecDepth 100000
set_option linter.unusedSimpArgs false
set_option linter.unusedVariables false
theorem conM_ok0 (n : Nat) (h26 : ∀ l m t, conM n 26 l m = some t → Con E0 26 l m t) : ∀ g l m t, conM n g l m = some t → Con E0 g l m t := by
  intro g l m t h
  by_cases hg : g = 26
  · subst hg; exact h26 l m t h
  · unfold conM at h
    split at h
    · exact absurd rfl hg
    · exact conT1_ok _ _ _ _ h
section
variable {ts : Array Value}
theorem kids_in (h : TsOk ts) {p : Nat → Bool} : ∀ {n : Nat}, n ≤ 16 → ∀ x ∈ whL (bkT ts) p n, ∃ i, i < n ∧ kindAt (bkT ts) i = 1 ∧ p i = true ∧ x = nameI i (ageAt (bkT ts) i)
  | 0, _, x, hx => by cases hx
  | n + 1, hn, x, hx => by
    rw [whL_succ] at hx
    split at hx
    · rename_i hk
      rcases List.mem_append.1 hx with hx | hx
      · obtain ⟨i, h1, h2⟩ := kids_in h (by omega) x hx
        exact ⟨i, by omega, h2⟩
      · obtain rfl := List.mem_singleton.1 hx
        exact ⟨n, by omega, hk.1, hk.2, rfl⟩
    · obtain ⟨i, h1, h2⟩ := kids_in h (by omega) x hx
      exact ⟨i, by omega, h2⟩
theorem in_kids {p : Nat → Bool} : ∀ {n i : Nat}, i < n → kindAt (bkT ts) i = 1 → p i = true → nameI i (ageAt (bkT ts) i) ∈ whL (bkT ts) p n
  | n + 1, i, hi, h1, h2 => by
    rw [whL_succ]
    by_cases e : i = n
    · subst e
      rw [if_pos ⟨h1, h2⟩]
      exact List.mem_append_right _ (List.mem_singleton.2 rfl)
    · have := in_kids (p := p) (n := n) (i := i) (by omega) h1 h2
      split
      · exact List.mem_append_left _ this
      · exact this
  | 0, _, hi, _, _ => by omega
theorem wh_good (h : TsOk ts) {p : Nat → Bool} {x : Int} (hx : x ∈ whL (bkT ts) p 16) : goodB (bkT ts) x = true ∧ p (sl x) = true ∧ sl x < 16 := by
  obtain ⟨i, h1, h2, h3, h4⟩ := kids_in h (Nat.le_refl _) x hx
  have e : sl x = i := by rw [h4]; exact slotI_name (by omega) (h.bk.ra i (by omega))
  rw [e]
  exact ⟨(goodB_iff h.bk).2 ⟨i, by omega, h2, h4⟩, h3, h1⟩
theorem wh_mem (h : TsOk ts) {p : Nat → Bool} {x : Int} : x ∈ whL (bkT ts) p 16 ↔ goodB (bkT ts) x = true ∧ p (sl x) = true := by
  refine ⟨fun hx => ⟨(wh_good h hx).1, (wh_good h hx).2.1⟩, fun ⟨h1, h2⟩ => ?_⟩
  obtain ⟨s1, s2, s3, s4, s5, s6, s7, s8⟩ := good_slot h h1
  rw [s6]
  exact in_kids s3 s5 h2
theorem wh_nodup (h : TsOk ts) {p : Nat → Bool} : ∀ {n : Nat}, n ≤ 16 → (whL (bkT ts) p n).Nodup
  | 0, _ => List.nodup_nil
  | n + 1, hn => by
    rw [whL_succ]
    split
    · rw [List.nodup_append]
      refine ⟨wh_nodup h (by omega), by simp, fun a ha b hb' => ?_⟩
      obtain ⟨i, h1, _, _, h3⟩ := kids_in h (by omega) a ha
      rw [List.mem_singleton] at hb'
      intro e
      rw [h3, hb'] at e
      have := (name_inj (by omega) (by omega) e).1
      omega
    · exact wh_nodup h (by omega)
def foldM (ts : Array Value) (n : Nat) (g : List (Int × Int)) (l : List Int) (i : Nat) : List (Int × Int) := (l.take i).foldl (fun g k => meetL ts n k g) g
theorem foldM_succ {n : Nat} {g : List (Int × Int)} {l : List Int} {i : Nat} (hi : i < l.length) : foldM ts n g l (i + 1) = meetL ts n (l.getD i 0) (foldM ts n g l i) := by
  unfold foldM
  rw [List.take_add_one, List.getElem?_eq_getElem hi, List.getD_eq_getElem?_getD, List.getElem?_eq_getElem hi]
  simp only [Option.toList_some, List.foldl_append, List.foldl_cons, List.foldl_nil, Option.getD_some]
theorem mL_ok {n : Nat} (hE : EnvOk (EMt n)) (h : TsOk ts) {x : Int} (hd : Deep ts (n + 1) x) (gs : List (Int × Int)) : ∀ (k i : Nat), i + k + 1 = (kidsT ts x).length → Good Try.prog (mRet (meetL ts (n + 1) x gs)) 4 (mL_F ts (kidsT ts x).length (u32s (kidsT ts x)) (i : Int) (foldM ts n (insI x 1 gs) (kidsT ts x) i)) (mL_M ts (kidsT ts x).length (u32s (kidsT ts x)) (i : Int) (foldM ts n (insI x 1 gs) (kidsT ts x) i)) := by
  have hall : ∀ i, i < (kidsT ts x).length → inH ((kidsT ts x).getD i 0) ∧ Deep ts n ((kidsT ts x).getD i 0) := by
    intro i hi
    have hm : (kidsT ts x).getD i 0 ∈ kidsT ts x := by rw [List.getD_eq_getElem?_getD, List.getElem?_eq_getElem hi]; exact List.getElem_mem _
    exact ⟨(goodB_in h.bk (wh_good h hm).1).1, hd _ hm⟩
  have hle : (kidsT ts x).length ≤ 16 := whL_le 16
  intro k
  induction k with
  | zero =>
    intro i hi
    refine past_vc hE 1000 (m1 n ts (kidsT ts x).length (u32s (kidsT ts x)) (i : Int) (foldM ts n (insI x 1 gs) (kidsT ts x) i) (meetL ts (n + 1) x gs) (fun _ _ => False)) ?_ (fun _ _ h => h) (fun fs m hb => mL_good (fun _ _ h => h.elim) hb)
    have hi' : i < (kidsT ts x).length := by omega
    obtain ⟨q1, q2⟩ := hall i hi'
    have ei : ari .add .i64 (i : Int) 1 = ((i + 1 : Nat) : Int) := by rw [ari_add, i64_in' (by omega) (by omega)]; omega
    have d : decide (((i + 1 : Nat) : Int) < ((kidsT ts x).length : Int)) = false := decide_eq_false (by omega)
    have hu := u32s_at hi'
    have ef : meetL ts n ((kidsT ts x).getD i 0) (foldM ts n (insI x 1 gs) (kidsT ts x) i) = meetL ts (n + 1) x gs := by
      rw [← foldM_succ hi', show i + 1 = (kidsT ts x).length by omega]
      unfold foldM
      rw [List.take_length]
      rfl
    simp only [Nat.zero_add, Nat.mul_one, Int.toNat_natCast, intAt_of hu, ei, d, ef, true_implies, Bool.true_eq_false, Bool.false_eq_true, false_implies, and_true, true_and]
    exact ⟨⟨by omega, by omega⟩, isI_of hu, h, ⟨q1.1, q1.2⟩, q2⟩
  | succ k ih =>
    intro i hi
    refine past_vc hE 1000 (m1 n ts (kidsT ts x).length (u32s (kidsT ts x)) (i : Int) (foldM ts n (insI x 1 gs) (kidsT ts x) i) (meetL ts (n + 1) x gs) (fun i' g' => i' = ((i + 1 : Nat) : Int) ∧ g' = foldM ts n (insI x 1 gs) (kidsT ts x) (i + 1))) ?_ (fun _ _ h => h)
      (fun fs m hb => mL_good (fun i' g' ⟨e1, e2⟩ => by rw [e1, e2]; exact ih (i + 1) (by omega)) hb)
    have hi' : i < (kidsT ts x).length := by omega
    obtain ⟨q1, q2⟩ := hall i hi'
    have ei : ari .add .i64 (i : Int) 1 = ((i + 1 : Nat) : Int) := by rw [ari_add, i64_in' (by omega) (by omega)]; omega
    have d : decide (((i + 1 : Nat) : Int) < ((kidsT ts x).length : Int)) = true := decide_eq_true (by omega)
    have hu := u32s_at hi'
    simp only [Nat.zero_add, Nat.mul_one, Int.toNat_natCast, intAt_of hu, ei, d, foldM_succ hi', true_implies, Bool.true_eq_false, Bool.false_eq_true, false_implies, and_true, true_and, mL_d0_ok]
    exact ⟨⟨by omega, by omega⟩, isI_of hu, h, ⟨q1.1, q1.2⟩, q2⟩
theorem meet_good {n : Nat} (hE : EnvOk (EMt n)) (h : TsOk ts) {x : Int} (hd : Deep ts (n + 1) x) (gs : List (Int × Int)) :
    Good Try.prog (mRet (meetL ts (n + 1) x gs)) 4 [callFr 26 Try.f26.ntmps [u32 x, ptr 0 (.l 0), ptr 1 (.l 0), ptr 2 (.l 0)] (Try.f26.body.getD .skip)] (mM ts gs) := by
  refine run_vc hE 1000 (mS n ts x gs (meetL ts (n + 1) x gs) (kidsT ts x).length (u32s (kidsT ts x)) (fun i g => i = ((0 : Nat) : Int) ∧ g = foldM ts n (insI x 1 gs) (kidsT ts x) 0 ∧ 0 < (kidsT ts x).length)) ?_ (fun s m h => h)
    (fun fs m hb => mL_good (fun i g ⟨e1, e2, e3⟩ => by rw [e1, e2]; exact mL_ok hE h hd gs ((kidsT ts x).length - 1) 0 (by omega)) hb)
  have ek : whL (bkT ts) (cP ts x) 16 = kidsT ts x := rfl
  cases c : decide ((kidsT ts x).length = 0) with
  | true =>
    have c0 := List.eq_nil_of_length_eq_zero (of_decide_eq_true c)
    have em : insI x 1 gs = meetL ts (n + 1) x gs := by unfold meetL; rw [c0]; rfl
    simp only [ek, c, h.sz, em, true_implies, Bool.true_eq_false, Bool.false_eq_true, false_implies, and_true, true_and]
    exact h
  | false =>
    have c0 := of_decide_eq_false c
    have d : decide ((0 : Int) < ((kidsT ts x).length : Int)) = true := decide_eq_true (by omega)
    simp only [ek, c, d, h.sz, true_implies, Bool.true_eq_false, Bool.false_eq_true, false_implies, and_true, true_and, mL_d0_ok]
    exact ⟨h, rfl, rfl, by omega⟩
theorem fn26 : E0.fn 26 = some Try.f26 := by kernel_rfl
theorem body26 : Try.f26.body = some (Try.f26.body.getD .skip) := by kernel_rfl
theorem mM_mem {gs : List (Int × Int)} {q : Nat} {b : SBlk} (hb : getB (mM ts gs).bl q = some b) : (q = 0 ∧ b = ⟨.ls [.f (.mp 3)], 74, false⟩) ∨ (q = 1 ∧ b = ⟨.op ts, 35, false⟩) ∨ (q = 2 ∧ b = ⟨.ls [mcS], 75, false⟩) := by
  have hb : (mkBl [(0, ⟨.ls [.f (.mp 3)], 74, false⟩), (1, ⟨.op ts, 35, false⟩), (2, ⟨.ls [mcS], 75, false⟩)]).get q = some b := hb
  unfold mkBl at hb
  simp only [List.foldl, Tr.get_set, Tr.get_nil] at hb
  split at hb
  · rename_i e; cases hb; exact .inr (.inr ⟨e, rfl⟩)
  · split at hb
    · rename_i e; cases hb; exact .inr (.inl ⟨e, rfl⟩)
    · split at hb
      · rename_i e; cases hb; exact .inl ⟨e, rfl⟩
      · cases hb
theorem one_ls {R R' : Ren} {a b : SC} {cs : Array Value} (h : ∀ v, a.ok R v → b.ok R' v) (ha : (SA.ls [a]).okM R cs) : (SA.ls [b]).okM R' cs := by
  have ha : All2 (SC.ok R) [a] cs.toList := ha
  show All2 (SC.ok R') [b] cs.toList
  revert ha
  generalize cs.toList = l
  intro ha
  match l, ha with
  | [v], ha => exact ⟨h v ha.1, trivial⟩
theorem conM_26 : ∀ (n : Nat) l m t, conM n 26 l m = some t → Con E0 26 l m t := by
  intro n
  induction n with
  | zero =>
    intro l m t h
    unfold conM at h
    split at h
    · split at h
      · split at h
        · cases h
          intro A hs
          exact (hs.1 _ (List.mem_cons_of_mem _ (List.mem_cons_of_mem _ (List.mem_cons_self ..)))).elim
        · cases h
      · cases h
    · rename_i g l' hne
      cases h
  | succ n ih =>
    intro l m t h
    have hE : EnvOk (EMt n) := EnvOk.with E0_ok _ _ (conM_ok0 n ih)
    unfold conM at h
    split at h
    · rename_i x i0 i1 i2 _
      split at h
      · rename_i q w0 ts w1 j0 j1 j2 w2 hb0 hb1 hb2
        split at h
        · rename_i gs hq hj
          cases h
          simp only [Bool.and_eq_true, Nat.beq_eq] at hj
          obtain ⟨rfl, rfl, rfl⟩ := hj
          refine Con.mapW (ms := mM ts gs) (x0 := 3) (l' := [u32 x.den, ptr 0 (.l 0), ptr 1 (.l 0), ptr 2 (.l 0)]) (A := mRet (meetL ts (n + 1) x.den gs)) (q := [TsOk ts, inH x.den, Deep ts (n + 1) x.den]) E0_ok fn26 body26 rfl (show 3 < 4 by decide) (fun k => if k = 0 then i0 else if k = 1 then i1 else if k = 2 then i2 else q) hq ?_ ?_ (fun hp => meet_good hE (hp _ (by simp)) (hp _ (by simp)) gs) ?_ ?_
          · intro k b hb
            rcases mM_mem hb with ⟨rfl, rfl⟩ | ⟨rfl, rfl⟩ | ⟨rfl, rfl⟩
            · exact ⟨(show 0 < 4 by decide), rfl, _, hb0, rfl, fun R cs h => one_ls (fun v hv => by
                obtain ⟨g, e1, e2⟩ := hv
                exact ⟨g, e1, e2⟩) h⟩
            · exact ⟨(show 1 < 4 by decide), rfl, _, hb1, rfl, fun R cs h => h⟩
            · exact ⟨(show 2 < 4 by decide), rfl, _, hb2, rfl, fun R cs h => one_ls (fun v hv => by
                obtain ⟨a, b, e, h1, h2⟩ := hv
                refine ⟨a, b, e, any_nil h1, ?_⟩
                revert h2
                generalize b.toList = l
                intro h2
                match l, h2 with
                | [c0, c1, c2], ⟨⟨g0, a0, b0⟩, ⟨g1, a1, b1⟩, ⟨g2, a2, b2⟩, _⟩ => exact ⟨⟨g0, a0, b0⟩, ⟨g1, a1, b1⟩, ⟨g2, a2, b2⟩, trivial⟩) h⟩
          · intro R vs ha
            match vs, ha with
            | [v, v0, v1, v2], ⟨a, ⟨g0, a0, b0⟩, ⟨g1, a1, b1⟩, ⟨g2, a2, b2⟩, _⟩ => exact ⟨a, ⟨g0, a0, b0⟩, ⟨g1, a1, b1⟩, ⟨g2, a2, b2⟩, trivial⟩
          · intro hp s m' hs
            unfold mRet at hs
            split at hs
            · rename_i gs' e
              rw [e, hs]
            · exact hs.elim
          · intro s m' R R' v hs hv
            unfold mRet at hs
            split at hs
            · obtain ⟨us, e, hu⟩ := hv
              refine ⟨us, e, ?_⟩
              revert hu
              generalize us.toList = l
              intro hu
              cases l with
              | nil => trivial
              | cons _ _ => exact hu.elim
            · exact hs.elim
        · cases h
      · cases h
    · cases h
end
end Go.Proofs.Ytnjmockpdmchcaa
/- Of token: Return: its states. No condition. -/
namespace Go.Proofs.Ytnjmockpdmchcaa
set_option linter.unusedVariables false
def ints (cs : Array Value) : List Int := cs.toList.map fun v => match v with | .int _ n => n | _ => 0
noncomputable def conU (n : Nat) (g : FuncId) (l : List SV) (m : SMem) : Option Tree := match g, l with
  | 30, [.s (.agg (.op ts)), .s (.c (.f (.lit (.slice none 0 0))))] => some (.need [TsOk ts] (.ret (tkS ts) m))
  | 30, [.s (.agg (.op ts)), .s (.c (.f (.slice i (.l 0) k (.full 1))))] => (match getB m.bl i with | some ⟨.pop cs, 30, _⟩ => some (.need [TsOk ts, HsOk (ints cs), (ints cs).length ≤ 32, cs = u32s (ints cs), k.den = (ints cs).length] (.ret (tkS (outT ts (ints cs) (ints cs).length)) m)) | _ => none)
  | 19, [.s (.agg (.op ts)), .s (.c (.f (.int .u32 r))), .s (.c (.f (.int .u32 a)))] => some (.need [TsOk ts, inH a.den] (.ret (sB (.o (readsB ts r.den a.den))) m))
  | 21, [.s (.agg (.op ts)), .s (.c (.f (.int .u32 r))), .s (.c (.f (.int .u32 a)))] => some (.need [TsOk ts, inH a.den] (.ret (sB (.o (writesB ts r.den a.den))) m))
  | 23, [.s (.agg (.op ts)), .s (.c (.f (.int .u32 a)))] => some (.need [TsOk ts, inH a.den] (.ret (.tup [.agg (.op (getC ts a.den)), .c (.f (.int .i64 (.o (getE ts a.den))))]) m))
  | 33, [.s (.agg (.op ts)), .s (.agg (.ls [.f (.int .u32 r), .f (.int .u8 b), .f (.int .u8 t), .f (.bool mu), .f (.int .u32 a)]))] => some (.need [TsOk ts, inH a.den] (.ret (i64 (.o (mayE ts r.den b.den t.den mu.den a.den))) m))
  | g, l => conM n g l m
noncomputable def ER (n : Nat) : Env := ⟨Try.prog, fnOf, conU n, haltAt [7006, 7010, 7014]⟩
noncomputable def rdMpC (m : SMem) (id : Nat) : Option Nat := match getB m.bl id with | some ⟨.ls [.f (.mp q)], _, _⟩ => some q | _ => none
noncomputable def nlS : SV := .s (.c (.f (.lit (.slice none 0 0))))
noncomputable def rA_d0 : List SIt := sekF Try.f7 6
noncomputable def rA_F (ts : Array Value) (h : Int) (gs : List (Int × Int)) (zz : Array Value) : List SFr := [frOf 7 Try.f7 [(1, .s (.c (.f (.int .u32 (.o h))))), (2, ptr 0 (.l 0)), (4, ptr 1 (.l 0)), (7, ptr 2 (.l 0)), (8, ptr 3 (.l 0))] rA_d0]
noncomputable def rA_M (ts : Array Value) (h : Int) (gs : List (Int × Int)) (zz : Array Value) : SMem := mkMX 5 [(0, ⟨.op ts, 35, true⟩), (1, ⟨.op zz, 35, true⟩), (2, ⟨.ls [.f (.mp 4)], 74, true⟩), (3, ⟨.ls [.fn (.func 26) [] [.ptr 2 (.l 0), .ptr 0 (.l 0), .ptr 3 (.l 0)]], 75, true⟩)] [(4, .mapI true .u32 (.i .i64) gs)]
noncomputable def rA_n (ts : Array Value) (h : Int) (Q : List (Int × Int) → Array Value → Prop) (fs : List SFr) (m : SMem) : Prop := (match frNth fs 0 with | some f0 => (match rdP f0 2 with | some p0 => (match rdP f0 4 with | some p1 => (match rdP f0 7 with | some p2 => (match rdP f0 8 with | some p3 => (match rdMpC m p2 with | some p4 => (match rdA m p1 with | some zz => (match rdMI m p4 with | some gs => Q gs zz ∧ subOk 0 [(0, p0), (1, p1), (2, p2), (3, p3), (4, p4)] (rA_F ts h gs zz) (rA_M ts h gs zz) fs m | none => False) | none => False) | none => False) | none => False) | none => False) | none => False) | none => False) | none => False)
noncomputable def rN_d0 : List SIt := sekF Try.f7 10
noncomputable def rN_F (ts : Array Value) (k : Nat) (rs : Array Value) (gs : List (Int × Int)) (i : Int) (zz : Array Value) : List SFr := [frOf 7 Try.f7 [(2, ptr 0 (.l 0)), (4, ptr 1 (.l 0)), (7, ptr 2 (.l 0)), (9, nlS), (25, .s (.c (.f (.slice 5 (.l 0) (.o k) (.full 1))))), (26, i64 (.o (k : Int))), (27, i64 (.o i))] rN_d0]
noncomputable def rN_M (ts : Array Value) (k : Nat) (rs : Array Value) (gs : List (Int × Int)) (i : Int) (zz : Array Value) : SMem := mkMX 6 [(0, ⟨.op ts, 35, true⟩), (1, ⟨.op zz, 35, true⟩), (2, ⟨.ls [.f (.mp 4)], 74, true⟩), (5, ⟨.pop rs, 30, true⟩)] [(4, .mapI true .u32 (.i .i64) gs)]
noncomputable def rN_n (ts : Array Value) (k : Nat) (rs : Array Value) (gs : List (Int × Int)) (Q : Int → Array Value → Prop) (fs : List SFr) (m : SMem) : Prop := (match frNth fs 0 with | some f0 => (match rdI f0 27 with | some i => (match rdP f0 2 with | some p0 => (match rdP f0 4 with | some p1 => (match rdP f0 7 with | some p2 => (match rdMpC m p2 with | some p4 => (match rdSI f0 25 with | some p5 => (match rdA m p1 with | some zz => Q i zz ∧ subOk 0 [(0, p0), (1, p1), (2, p2), (4, p4), (5, p5)] (rN_F ts k rs gs i zz) (rN_M ts k rs gs i zz) fs m | none => False) | none => False) | none => False) | none => False) | none => False) | none => False) | none => False) | none => False)
noncomputable def rS_d0 : List SIt := sekF Try.f7 10
noncomputable def rS_F (ts : Array Value) (k : Nat) (rs : Array Value) (gs : List (Int × Int)) (i : Int) (zz : Array Value) (q : Nat) (cs : Array Value) : List SFr := [frOf 7 Try.f7 [(2, ptr 0 (.l 0)), (4, ptr 1 (.l 0)), (7, ptr 2 (.l 0)), (9, .s (.c (.f (.slice 6 (.l 0) (.o q) (.full 1))))), (25, .s (.c (.f (.slice 5 (.l 0) (.o k) (.full 1))))), (26, i64 (.o (k : Int))), (27, i64 (.o i))] rS_d0]
noncomputable def rS_M (ts : Array Value) (k : Nat) (rs : Array Value) (gs : List (Int × Int)) (i : Int) (zz : Array Value) (q : Nat) (cs : Array Value) : SMem := mkMX 7 [(0, ⟨.op ts, 35, true⟩), (1, ⟨.op zz, 35, true⟩), (2, ⟨.ls [.f (.mp 4)], 74, true⟩), (5, ⟨.pop rs, 30, true⟩), (6, ⟨.pop cs, 30, true⟩)] [(4, .mapI true .u32 (.i .i64) gs)]
noncomputable def rS_n (ts : Array Value) (k : Nat) (rs : Array Value) (gs : List (Int × Int)) (Q : Int → Array Value → Nat → Array Value → Prop) (fs : List SFr) (m : SMem) : Prop := (match frNth fs 0 with | some f0 => (match rdI f0 27 with | some i => (match rdP f0 2 with | some p0 => (match rdP f0 4 with | some p1 => (match rdP f0 7 with | some p2 => (match rdMpC m p2 with | some p4 => (match rdSI f0 25 with | some p5 => (match rdSI f0 9 with | some p6 => (match rdSN f0 9 with | some q => (match rdA m p1 with | some zz => (match rdA m p6 with | some cs => Q i zz q cs ∧ subOk 0 [(0, p0), (1, p1), (2, p2), (4, p4), (5, p5), (6, p6)] (rS_F ts k rs gs i zz q cs) (rS_M ts k rs gs i zz q cs) fs m | none => False) | none => False) | none => False) | none => False) | none => False) | none => False) | none => False) | none => False) | none => False) | none => False) | none => False)
noncomputable def eS_d0 : List SIt := sekF Try.f7 14
noncomputable def eS_F (ts : Array Value) (zz : Array Value) (q : Nat) (cs : Array Value) : List SFr := [frOf 7 Try.f7 [(2, ptr 0 (.l 0)), (4, ptr 1 (.l 0)), (9, .s (.c (.f (.slice 6 (.l 0) (.o q) (.full 1)))))] eS_d0]
noncomputable def eS_M (ts : Array Value) (zz : Array Value) (q : Nat) (cs : Array Value) : SMem := mkM 7 [(0, ⟨.op ts, 35, true⟩), (1, ⟨.op zz, 35, true⟩), (6, ⟨.pop cs, 30, true⟩)]
noncomputable def eS_n (ts : Array Value) (Q : Array Value → Nat → Array Value → Prop) (fs : List SFr) (m : SMem) : Prop := (match frNth fs 0 with | some f0 => (match rdP f0 2 with | some p0 => (match rdP f0 4 with | some p1 => (match rdSI f0 9 with | some p6 => (match rdSN f0 9 with | some q => (match rdA m p1 with | some zz => (match rdA m p6 with | some cs => Q zz q cs ∧ subOk 0 [(0, p0), (1, p1), (6, p6)] (eS_F ts zz q cs) (eS_M ts zz q cs) fs m | none => False) | none => False) | none => False) | none => False) | none => False) | none => False) | none => False)
noncomputable def rBad (q : Prop) (ts : Array Value) (s : SV) (m : SMem) : Prop := match s with | .tup [.agg (.op o), .c (.f (.lit (.slice none 0 0))), .c (.f (.int .i64 e))] => q ∧ o = ts ∧ e.den = 4 | _ => False
noncomputable def rOk (o : Array Value) (k : Nat) (cs : Array Value) (s : SV) (m : SMem) : Prop := match s with | .tup [.agg (.op o'), .c (.f (.slice id (.l 0) (.o n) (.full 1))), .c (.f (.int .i64 e))] => (match getB m.bl id with | some ⟨.pop ds, ty, true⟩ => o' = o ∧ n = k ∧ ds = cs ∧ ty = 30 ∧ e.den = 0 | _ => False) | _ => False
noncomputable def rZS (ts : Array Value) (k : Nat) (rs : Array Value) (gs : List (Int × Int)) (QN : Int → Array Value → Prop) (QS : Int → Array Value → Nat → Array Value → Prop) (fs : List SFr) (m : SMem) : Prop := match fs with | f :: _ => (match f.tm.get 9 with | some (.s (.c (.f (.slice _ _ _ _)))) => rS_n ts k rs gs QS fs m | _ => rN_n ts k rs gs QN fs m) | [] => False
noncomputable def rG (ts : Array Value) (k : Nat) (rs : Array Value) (gs : List (Int × Int)) (QN : Int → Array Value → Prop) (QS : Int → Array Value → Nat → Array Value → Prop) (QE : Array Value → Nat → Array Value → Prop) (QX : Prop) (fs : List SFr) (m : SMem) : Prop := match Nat.beq (atR fs) 7014 with | true => (match fs with | f :: _ => (match f.tm.get 9 with | some (.s (.c (.f (.slice _ _ _ _)))) => eS_n ts QE fs m | _ => QX) | [] => False) | false => rZS ts k rs gs QN QS fs m
theorem rA_d0_ok (r : Nat → Option Nat) : TodoOk r rA_d0 rA_d0 := TodoOk.it (by kernel_rfl)
theorem rN_d0_ok (r : Nat → Option Nat) : TodoOk r rN_d0 rN_d0 := TodoOk.it (by kernel_rfl)
theorem rS_d0_ok (r : Nat → Option Nat) : TodoOk r rS_d0 rS_d0 := TodoOk.it (by kernel_rfl)
theorem eS_d0_ok (r : Nat → Option Nat) : TodoOk r eS_d0 eS_d0 := TodoOk.it (by kernel_rfl)
theorem rA_good {A : SV → SMem → Prop} {ts : Array Value} {h : Int} {Q : List (Int × Int) → Array Value → Prop} {fs : List SFr} {m : SMem} (H : ∀ gs zz, Q gs zz → Good Try.prog A 0 (rA_F ts h gs zz) (rA_M ts h gs zz)) (hb : rA_n ts h Q fs m) : Good Try.prog A 0 fs m := by
  unfold rA_n at hb
  split at hb
  rotate_left
  · exact hb.elim
  split at hb
  rotate_left
  · exact hb.elim
  split at hb
  rotate_left
  · exact hb.elim
  split at hb
  rotate_left
  · exact hb.elim
  split at hb
  rotate_left
  · exact hb.elim
  split at hb
  rotate_left
  · exact hb.elim
  split at hb
  rotate_left
  · exact hb.elim
  split at hb
  rotate_left
  · exact hb.elim
  exact Good.of_sub hb.2 (H _ _ hb.1)
theorem rN_good {A : SV → SMem → Prop} {ts : Array Value} {k : Nat} {rs : Array Value} {gs : List (Int × Int)} {Q : Int → Array Value → Prop} {fs : List SFr} {m : SMem} (H : ∀ i zz, Q i zz → Good Try.prog A 0 (rN_F ts k rs gs i zz) (rN_M ts k rs gs i zz)) (hb : rN_n ts k rs gs Q fs m) : Good Try.prog A 0 fs m := by
  unfold rN_n at hb
  split at hb
  rotate_left
  · exact hb.elim
  split at hb
  rotate_left
  · exact hb.elim
  split at hb
  rotate_left
  · exact hb.elim
  split at hb
  rotate_left
  · exact hb.elim
  split at hb
  rotate_left
  · exact hb.elim
  split at hb
  rotate_left
  · exact hb.elim
  split at hb
  rotate_left
  · exact hb.elim
  split at hb
  rotate_left
  · exact hb.elim
  exact Good.of_sub hb.2 (H _ _ hb.1)
theorem rS_good {A : SV → SMem → Prop} {ts : Array Value} {k : Nat} {rs : Array Value} {gs : List (Int × Int)} {Q : Int → Array Value → Nat → Array Value → Prop} {fs : List SFr} {m : SMem} (H : ∀ i zz q cs, Q i zz q cs → Good Try.prog A 0 (rS_F ts k rs gs i zz q cs) (rS_M ts k rs gs i zz q cs)) (hb : rS_n ts k rs gs Q fs m) : Good Try.prog A 0 fs m := by
  unfold rS_n at hb
  split at hb
  rotate_left
  · exact hb.elim
  split at hb
  rotate_left
  · exact hb.elim
  split at hb
  rotate_left
  · exact hb.elim
  split at hb
  rotate_left
  · exact hb.elim
  split at hb
  rotate_left
  · exact hb.elim
  split at hb
  rotate_left
  · exact hb.elim
  split at hb
  rotate_left
  · exact hb.elim
  split at hb
  rotate_left
  · exact hb.elim
  split at hb
  rotate_left
  · exact hb.elim
  split at hb
  rotate_left
  · exact hb.elim
  split at hb
  rotate_left
  · exact hb.elim
  exact Good.of_sub hb.2 (H _ _ _ _ hb.1)
theorem eS_good {A : SV → SMem → Prop} {ts : Array Value} {Q : Array Value → Nat → Array Value → Prop} {fs : List SFr} {m : SMem} (H : ∀ zz q cs, Q zz q cs → Good Try.prog A 0 (eS_F ts zz q cs) (eS_M ts zz q cs)) (hb : eS_n ts Q fs m) : Good Try.prog A 0 fs m := by
  unfold eS_n at hb
  split at hb
  rotate_left
  · exact hb.elim
  split at hb
  rotate_left
  · exact hb.elim
  split at hb
  rotate_left
  · exact hb.elim
  split at hb
  rotate_left
  · exact hb.elim
  split at hb
  rotate_left
  · exact hb.elim
  split at hb
  rotate_left
  · exact hb.elim
  split at hb
  rotate_left
  · exact hb.elim
  exact Good.of_sub hb.2 (H _ _ _ hb.1)
end Go.Proofs.Ytnjmockpdmchcaa
/- Of token: Return: its states. -/
namespace Go.Proofs.Ytnjmockpdmchcaa
set_option maxRecDepth 100000
theorem rt0 (n : Nat) (ts : Array Value) (h : Int) (q : Prop) (o : Array Value) (Q : List (Int × Int) → Array Value → Prop) : (run (ER n) 1000 0 [callFr 7 Try.f7.ntmps [tkS ts, u32 h] (Try.f7.body.getD .skip)] e0M).vc (rBad q o) (rA_n ts h Q) =
    (((0 : Nat) + (64 : Nat) ≤ Array.size ts ∧ True) ∧ (BkOk (Array.extract ts (0 : Nat) ((0 : Nat) + (64 : Nat))) ∧ ((0 : Int) ≤ h ∧ h < (4294967296 : Int)) ∧ True) ∧ ((!goodB (Array.extract ts (0 : Nat) ((0 : Nat) + (64 : Nat))) h) = true → (Array.size ts = (144 : Nat) ∧ True) ∧ (Array.size ts = (144 : Nat) ∧ Array.size ts = (144 : Nat) ∧ True) ∧ (Array.size ts = (144 : Nat) ∧ True) ∧ q ∧ ts = o ∧ (4 : Int) = (4 : Int)) ∧ ((!goodB (Array.extract ts (0 : Nat) ((0 : Nat) + (64 : Nat))) h) = false → Q (List.map (fun p => (decV (Prod.fst p), decV (Prod.snd p))) []) #[Value.int IntKind.u32 (0 : Int), Value.int IntKind.u8 (0 : Int), Value.int IntKind.u32 (0 : Int), Value.int IntKind.u8 (0 : Int), Value.int IntKind.u32 (0 : Int), Value.int IntKind.u8 (0 : Int), Value.int IntKind.u32 (0 : Int), Value.int IntKind.u8 (0 : Int), Value.int IntKind.u32 (0 : Int), Value.int IntKind.u8 (0 : Int), Value.int IntKind.u32 (0 : Int), Value.int IntKind.u8 (0 : Int), Value.int IntKind.u32 (0 : Int), Value.int IntKind.u8 (0 : Int), Value.int IntKind.u32 (0 : Int), Value.int IntKind.u8 (0 : Int), Value.int IntKind.u32 (0 : Int), Value.int IntKind.u8 (0 : Int), Value.int IntKind.u32 (0 : Int), Value.int IntKind.u8 (0 : Int), Value.int IntKind.u32 (0 : Int), Value.int IntKind.u8 (0 : Int), Value.int IntKind.u32 (0 : Int), Value.int IntKind.u8 (0 : Int), Value.int IntKind.u32 (0 : Int), Value.int IntKind.u8 (0 : Int), Value.int IntKind.u32 (0 : Int), Value.int IntKind.u8 (0 : Int), Value.int IntKind.u32 (0 : Int), Value.int IntKind.u8 (0 : Int), Value.int IntKind.u32 (0 : Int), Value.int IntKind.u8 (0 : Int), Value.int IntKind.u32 (0 : Int), Value.int IntKind.u8 (0 : Int), Value.int IntKind.u32 (0 : Int), Value.int IntKind.u8 (0 : Int), Value.int IntKind.u32 (0 : Int), Value.int IntKind.u8 (0 : Int), Value.int IntKind.u32 (0 : Int), Value.int IntKind.u8 (0 : Int), Value.int IntKind.u32 (0 : Int), Value.int IntKind.u8 (0 : Int), Value.int IntKind.u32 (0 : Int), Value.int IntKind.u8 (0 : Int), Value.int IntKind.u32 (0 : Int), Value.int IntKind.u8 (0 : Int), Value.int IntKind.u32 (0 : Int), Value.int IntKind.u8 (0 : Int), Value.int IntKind.u32 (0 : Int), Value.int IntKind.u8 (0 : Int), Value.int IntKind.u32 (0 : Int), Value.int IntKind.u8 (0 : Int), Value.int IntKind.u32 (0 : Int), Value.int IntKind.u8 (0 : Int), Value.int IntKind.u32 (0 : Int), Value.int IntKind.u8 (0 : Int), Value.int IntKind.u32 (0 : Int), Value.int IntKind.u8 (0 : Int), Value.int IntKind.u32 (0 : Int), Value.int IntKind.u8 (0 : Int), Value.int IntKind.u32 (0 : Int), Value.int IntKind.u8 (0 : Int), Value.int IntKind.u32 (0 : Int), Value.int IntKind.u8 (0 : Int), Value.int IntKind.u32 (0 : Int), Value.int IntKind.u8 (0 : Int), Value.int IntKind.u8 (0 : Int), Value.bool false, Value.int IntKind.u32 (0 : Int), Value.int IntKind.u32 (0 : Int), Value.int IntKind.u8 (0 : Int), Value.int IntKind.u8 (0 : Int), Value.bool false, Value.int IntKind.u32 (0 : Int), Value.int IntKind.u32 (0 : Int), Value.int IntKind.u8 (0 : Int), Value.int IntKind.u8 (0 : Int), Value.bool false, Value.int IntKind.u32 (0 : Int), Value.int IntKind.u32 (0 : Int), Value.int IntKind.u8 (0 : Int), Value.int IntKind.u8 (0 : Int), Value.bool false, Value.int IntKind.u32 (0 : Int), Value.int IntKind.u32 (0 : Int), Value.int IntKind.u8 (0 : Int), Value.int IntKind.u8 (0 : Int), Value.bool false, Value.int IntKind.u32 (0 : Int), Value.int IntKind.u32 (0 : Int), Value.int IntKind.u8 (0 : Int), Value.int IntKind.u8 (0 : Int), Value.bool false, Value.int IntKind.u32 (0 : Int), Value.int IntKind.u32 (0 : Int), Value.int IntKind.u8 (0 : Int), Value.int IntKind.u8 (0 : Int), Value.bool false, Value.int IntKind.u32 (0 : Int), Value.int IntKind.u32 (0 : Int), Value.int IntKind.u8 (0 : Int), Value.int IntKind.u8 (0 : Int), Value.bool false, Value.int IntKind.u32 (0 : Int), Value.int IntKind.u32 (0 : Int), Value.int IntKind.u8 (0 : Int), Value.int IntKind.u8 (0 : Int), Value.bool false, Value.int IntKind.u32 (0 : Int), Value.int IntKind.u32 (0 : Int), Value.int IntKind.u8 (0 : Int), Value.int IntKind.u8 (0 : Int), Value.bool false, Value.int IntKind.u32 (0 : Int), Value.int IntKind.u32 (0 : Int), Value.int IntKind.u8 (0 : Int), Value.int IntKind.u8 (0 : Int), Value.bool false, Value.int IntKind.u32 (0 : Int), Value.int IntKind.u32 (0 : Int), Value.int IntKind.u8 (0 : Int), Value.int IntKind.u8 (0 : Int), Value.bool false, Value.int IntKind.u32 (0 : Int), Value.int IntKind.u32 (0 : Int), Value.int IntKind.u8 (0 : Int), Value.int IntKind.u8 (0 : Int), Value.bool false, Value.int IntKind.u32 (0 : Int), Value.int IntKind.u32 (0 : Int), Value.int IntKind.u8 (0 : Int), Value.int IntKind.u8 (0 : Int), Value.bool false, Value.int IntKind.u32 (0 : Int), Value.int IntKind.u32 (0 : Int), Value.int IntKind.u8 (0 : Int), Value.int IntKind.u8 (0 : Int), Value.bool false, Value.int IntKind.u32 (0 : Int), Value.int IntKind.u32 (0 : Int), Value.int IntKind.u8 (0 : Int), Value.int IntKind.u8 (0 : Int), Value.bool false, Value.int IntKind.u32 (0 : Int)] ∧ CallKind.normal = CallKind.normal ∧ TodoOk (ren 0 [(0, 0), (1, 1), (2, 3), (3, 4), (4, 2)]) rA_d0 rA_d0 ∧ h = h ∧ (35 : TypeId) = (35 : Nat) ∧ ts = ts ∧ (35 : TypeId) = (35 : Nat) ∧ #[Value.int IntKind.u32 (0 : Int), Value.int IntKind.u8 (0 : Int), Value.int IntKind.u32 (0 : Int), Value.int IntKind.u8 (0 : Int), Value.int IntKind.u32 (0 : Int), Value.int IntKind.u8 (0 : Int), Value.int IntKind.u32 (0 : Int), Value.int IntKind.u8 (0 : Int), Value.int IntKind.u32 (0 : Int), Value.int IntKind.u8 (0 : Int), Value.int IntKind.u32 (0 : Int), Value.int IntKind.u8 (0 : Int), Value.int IntKind.u32 (0 : Int), Value.int IntKind.u8 (0 : Int), Value.int IntKind.u32 (0 : Int), Value.int IntKind.u8 (0 : Int), Value.int IntKind.u32 (0 : Int), Value.int IntKind.u8 (0 : Int), Value.int IntKind.u32 (0 : Int), Value.int IntKind.u8 (0 : Int), Value.int IntKind.u32 (0 : Int), Value.int IntKind.u8 (0 : Int), Value.int IntKind.u32 (0 : Int), Value.int IntKind.u8 (0 : Int), Value.int IntKind.u32 (0 : Int), Value.int IntKind.u8 (0 : Int), Value.int IntKind.u32 (0 : Int), Value.int IntKind.u8 (0 : Int), Value.int IntKind.u32 (0 : Int), Value.int IntKind.u8 (0 : Int), Value.int IntKind.u32 (0 : Int), Value.int IntKind.u8 (0 : Int), Value.int IntKind.u32 (0 : Int), Value.int IntKind.u8 (0 : Int), Value.int IntKind.u32 (0 : Int), Value.int IntKind.u8 (0 : Int), Value.int IntKind.u32 (0 : Int), Value.int IntKind.u8 (0 : Int), Value.int IntKind.u32 (0 : Int), Value.int IntKind.u8 (0 : Int), Value.int IntKind.u32 (0 : Int), Value.int IntKind.u8 (0 : Int), Value.int IntKind.u32 (0 : Int), Value.int IntKind.u8 (0 : Int), Value.int IntKind.u32 (0 : Int), Value.int IntKind.u8 (0 : Int), Value.int IntKind.u32 (0 : Int), Value.int IntKind.u8 (0 : Int), Value.int IntKind.u32 (0 : Int), Value.int IntKind.u8 (0 : Int), Value.int IntKind.u32 (0 : Int), Value.int IntKind.u8 (0 : Int), Value.int IntKind.u32 (0 : Int), Value.int IntKind.u8 (0 : Int), Value.int IntKind.u32 (0 : Int), Value.int IntKind.u8 (0 : Int), Value.int IntKind.u32 (0 : Int), Value.int IntKind.u8 (0 : Int), Value.int IntKind.u32 (0 : Int), Value.int IntKind.u8 (0 : Int), Value.int IntKind.u32 (0 : Int), Value.int IntKind.u8 (0 : Int), Value.int IntKind.u32 (0 : Int), Value.int IntKind.u8 (0 : Int), Value.int IntKind.u32 (0 : Int), Value.int IntKind.u8 (0 : Int), Value.int IntKind.u8 (0 : Int), Value.bool false, Value.int IntKind.u32 (0 : Int), Value.int IntKind.u32 (0 : Int), Value.int IntKind.u8 (0 : Int), Value.int IntKind.u8 (0 : Int), Value.bool false, Value.int IntKind.u32 (0 : Int), Value.int IntKind.u32 (0 : Int), Value.int IntKind.u8 (0 : Int), Value.int IntKind.u8 (0 : Int), Value.bool false, Value.int IntKind.u32 (0 : Int), Value.int IntKind.u32 (0 : Int), Value.int IntKind.u8 (0 : Int), Value.int IntKind.u8 (0 : Int), Value.bool false, Value.int IntKind.u32 (0 : Int), Value.int IntKind.u32 (0 : Int), Value.int IntKind.u8 (0 : Int), Value.int IntKind.u8 (0 : Int), Value.bool false, Value.int IntKind.u32 (0 : Int), Value.int IntKind.u32 (0 : Int), Value.int IntKind.u8 (0 : Int), Value.int IntKind.u8 (0 : Int), Value.bool false, Value.int IntKind.u32 (0 : Int), Value.int IntKind.u32 (0 : Int), Value.int IntKind.u8 (0 : Int), Value.int IntKind.u8 (0 : Int), Value.bool false, Value.int IntKind.u32 (0 : Int), Value.int IntKind.u32 (0 : Int), Value.int IntKind.u8 (0 : Int), Value.int IntKind.u8 (0 : Int), Value.bool false, Value.int IntKind.u32 (0 : Int), Value.int IntKind.u32 (0 : Int), Value.int IntKind.u8 (0 : Int), Value.int IntKind.u8 (0 : Int), Value.bool false, Value.int IntKind.u32 (0 : Int), Value.int IntKind.u32 (0 : Int), Value.int IntKind.u8 (0 : Int), Value.int IntKind.u8 (0 : Int), Value.bool false, Value.int IntKind.u32 (0 : Int), Value.int IntKind.u32 (0 : Int), Value.int IntKind.u8 (0 : Int), Value.int IntKind.u8 (0 : Int), Value.bool false, Value.int IntKind.u32 (0 : Int), Value.int IntKind.u32 (0 : Int), Value.int IntKind.u8 (0 : Int), Value.int IntKind.u8 (0 : Int), Value.bool false, Value.int IntKind.u32 (0 : Int), Value.int IntKind.u32 (0 : Int), Value.int IntKind.u8 (0 : Int), Value.int IntKind.u8 (0 : Int), Value.bool false, Value.int IntKind.u32 (0 : Int), Value.int IntKind.u32 (0 : Int), Value.int IntKind.u8 (0 : Int), Value.int IntKind.u8 (0 : Int), Value.bool false, Value.int IntKind.u32 (0 : Int), Value.int IntKind.u32 (0 : Int), Value.int IntKind.u8 (0 : Int), Value.int IntKind.u8 (0 : Int), Value.bool false, Value.int IntKind.u32 (0 : Int), Value.int IntKind.u32 (0 : Int), Value.int IntKind.u8 (0 : Int), Value.int IntKind.u8 (0 : Int), Value.bool false, Value.int IntKind.u32 (0 : Int)] = #[Value.int IntKind.u32 (0 : Int), Value.int IntKind.u8 (0 : Int), Value.int IntKind.u32 (0 : Int), Value.int IntKind.u8 (0 : Int), Value.int IntKind.u32 (0 : Int), Value.int IntKind.u8 (0 : Int), Value.int IntKind.u32 (0 : Int), Value.int IntKind.u8 (0 : Int), Value.int IntKind.u32 (0 : Int), Value.int IntKind.u8 (0 : Int), Value.int IntKind.u32 (0 : Int), Value.int IntKind.u8 (0 : Int), Value.int IntKind.u32 (0 : Int), Value.int IntKind.u8 (0 : Int), Value.int IntKind.u32 (0 : Int), Value.int IntKind.u8 (0 : Int), Value.int IntKind.u32 (0 : Int), Value.int IntKind.u8 (0 : Int), Value.int IntKind.u32 (0 : Int), Value.int IntKind.u8 (0 : Int), Value.int IntKind.u32 (0 : Int), Value.int IntKind.u8 (0 : Int), Value.int IntKind.u32 (0 : Int), Value.int IntKind.u8 (0 : Int), Value.int IntKind.u32 (0 : Int), Value.int IntKind.u8 (0 : Int), Value.int IntKind.u32 (0 : Int), Value.int IntKind.u8 (0 : Int), Value.int IntKind.u32 (0 : Int), Value.int IntKind.u8 (0 : Int), Value.int IntKind.u32 (0 : Int), Value.int IntKind.u8 (0 : Int), Value.int IntKind.u32 (0 : Int), Value.int IntKind.u8 (0 : Int), Value.int IntKind.u32 (0 : Int), Value.int IntKind.u8 (0 : Int), Value.int IntKind.u32 (0 : Int), Value.int IntKind.u8 (0 : Int), Value.int IntKind.u32 (0 : Int), Value.int IntKind.u8 (0 : Int), Value.int IntKind.u32 (0 : Int), Value.int IntKind.u8 (0 : Int), Value.int IntKind.u32 (0 : Int), Value.int IntKind.u8 (0 : Int), Value.int IntKind.u32 (0 : Int), Value.int IntKind.u8 (0 : Int), Value.int IntKind.u32 (0 : Int), Value.int IntKind.u8 (0 : Int), Value.int IntKind.u32 (0 : Int), Value.int IntKind.u8 (0 : Int), Value.int IntKind.u32 (0 : Int), Value.int IntKind.u8 (0 : Int), Value.int IntKind.u32 (0 : Int), Value.int IntKind.u8 (0 : Int), Value.int IntKind.u32 (0 : Int), Value.int IntKind.u8 (0 : Int), Value.int IntKind.u32 (0 : Int), Value.int IntKind.u8 (0 : Int), Value.int IntKind.u32 (0 : Int), Value.int IntKind.u8 (0 : Int), Value.int IntKind.u32 (0 : Int), Value.int IntKind.u8 (0 : Int), Value.int IntKind.u32 (0 : Int), Value.int IntKind.u8 (0 : Int), Value.int IntKind.u32 (0 : Int), Value.int IntKind.u8 (0 : Int), Value.int IntKind.u8 (0 : Int), Value.bool false, Value.int IntKind.u32 (0 : Int), Value.int IntKind.u32 (0 : Int), Value.int IntKind.u8 (0 : Int), Value.int IntKind.u8 (0 : Int), Value.bool false, Value.int IntKind.u32 (0 : Int), Value.int IntKind.u32 (0 : Int), Value.int IntKind.u8 (0 : Int), Value.int IntKind.u8 (0 : Int), Value.bool false, Value.int IntKind.u32 (0 : Int), Value.int IntKind.u32 (0 : Int), Value.int IntKind.u8 (0 : Int), Value.int IntKind.u8 (0 : Int), Value.bool false, Value.int IntKind.u32 (0 : Int), Value.int IntKind.u32 (0 : Int), Value.int IntKind.u8 (0 : Int), Value.int IntKind.u8 (0 : Int), Value.bool false, Value.int IntKind.u32 (0 : Int), Value.int IntKind.u32 (0 : Int), Value.int IntKind.u8 (0 : Int), Value.int IntKind.u8 (0 : Int), Value.bool false, Value.int IntKind.u32 (0 : Int), Value.int IntKind.u32 (0 : Int), Value.int IntKind.u8 (0 : Int), Value.int IntKind.u8 (0 : Int), Value.bool false, Value.int IntKind.u32 (0 : Int), Value.int IntKind.u32 (0 : Int), Value.int IntKind.u8 (0 : Int), Value.int IntKind.u8 (0 : Int), Value.bool false, Value.int IntKind.u32 (0 : Int), Value.int IntKind.u32 (0 : Int), Value.int IntKind.u8 (0 : Int), Value.int IntKind.u8 (0 : Int), Value.bool false, Value.int IntKind.u32 (0 : Int), Value.int IntKind.u32 (0 : Int), Value.int IntKind.u8 (0 : Int), Value.int IntKind.u8 (0 : Int), Value.bool false, Value.int IntKind.u32 (0 : Int), Value.int IntKind.u32 (0 : Int), Value.int IntKind.u8 (0 : Int), Value.int IntKind.u8 (0 : Int), Value.bool false, Value.int IntKind.u32 (0 : Int), Value.int IntKind.u32 (0 : Int), Value.int IntKind.u8 (0 : Int), Value.int IntKind.u8 (0 : Int), Value.bool false, Value.int IntKind.u32 (0 : Int), Value.int IntKind.u32 (0 : Int), Value.int IntKind.u8 (0 : Int), Value.int IntKind.u8 (0 : Int), Value.bool false, Value.int IntKind.u32 (0 : Int), Value.int IntKind.u32 (0 : Int), Value.int IntKind.u8 (0 : Int), Value.int IntKind.u8 (0 : Int), Value.bool false, Value.int IntKind.u32 (0 : Int), Value.int IntKind.u32 (0 : Int), Value.int IntKind.u8 (0 : Int), Value.int IntKind.u8 (0 : Int), Value.bool false, Value.int IntKind.u32 (0 : Int), Value.int IntKind.u32 (0 : Int), Value.int IntKind.u8 (0 : Int), Value.int IntKind.u8 (0 : Int), Value.bool false, Value.int IntKind.u32 (0 : Int)] ∧ (75 : TypeId) = (75 : Nat) ∧ Fn.func (26 : Nat) = Fn.func (26 : Nat) ∧ (74 : TypeId) = (74 : Nat) ∧ List.map (encE IntKind.u32 (VK.i IntKind.i64)) (List.map (fun p => (decV (Prod.fst p), decV (Prod.snd p))) []) = [] ∧ True)) := by kernel_rfl
theorem rt1 (n : Nat) (ts : Array Value) (h : Int) (gs gF : List (Int × Int)) (zz o : Array Value) (kF : Nat) (cF : Array Value) (k : Nat) (rs : Array Value) (QN : Int → Array Value → Prop) (QS : Int → Array Value → Nat → Array Value → Prop) (QE : Array Value → Nat → Array Value → Prop) (QX : Prop) : (stepT (ER n).go (run (ER n) 1000) 0 (rA_F ts h gs zz) (rA_M ts h gs zz)).vc (rOk o kF cF) (rG ts k rs gF QN QS QE QX) =
    ((TsOk ts ∧ ((0 : Int) ≤ h ∧ h < (4294967296 : Int)) ∧ Deep ts n h ∧ True) ∧ ((0 : Nat) + (64 : Nat) ≤ Array.size ts ∧ True) ∧ (BkOk (Array.extract ts (0 : Nat) ((0 : Nat) + (64 : Nat))) ∧ True) ∧ (decide (List.length (issued (Array.extract ts (0 : Nat) ((0 : Nat) + (64 : Nat)))) = (0 : Nat)) = true → QX) ∧ (decide (List.length (issued (Array.extract ts (0 : Nat) ((0 : Nat) + (64 : Nat)))) = (0 : Nat)) = false → (decide ((0 : Int) < (↑(List.length (issued (Array.extract ts (0 : Nat) ((0 : Nat) + (64 : Nat))))) : Int)) = true → QN (0 : Int) zz ∧ CallKind.normal = CallKind.normal ∧ TodoOk (ren 0 [(0, 0), (1, 1), (2, 2), (4, 4), (5, 5)]) rN_d0 rN_d0 ∧ (0 : Int) = (0 : Int) ∧ Value.slice none (0 : Nat) (0 : Nat) = Value.slice none (0 : Nat) (0 : Nat) ∧ k = List.length (issued (Array.extract ts (0 : Nat) ((0 : Nat) + (64 : Nat)))) ∧ (↑k : Int) = (↑(List.length (issued (Array.extract ts (0 : Nat) ((0 : Nat) + (64 : Nat))))) : Int) ∧ (35 : TypeId) = (35 : TypeId) ∧ ts = ts ∧ (35 : TypeId) = (35 : TypeId) ∧ zz = zz ∧ (30 : TypeId) = (30 : TypeId) ∧ rs = u32s (issued (Array.extract ts (0 : Nat) ((0 : Nat) + (64 : Nat)))) ∧ (74 : TypeId) = (74 : TypeId) ∧ IntKind.u32 = IntKind.u32 ∧ VK.i IntKind.i64 = VK.i IntKind.i64 ∧ gF = meetL ts n h gs ∧ True) ∧ (decide ((0 : Int) < (↑(List.length (issued (Array.extract ts (0 : Nat) ((0 : Nat) + (64 : Nat))))) : Int)) = false → QX))) := by kernel_rfl
theorem rt2 (n : Nat) (ts : Array Value) (k : Nat) (rs : Array Value) (gs : List (Int × Int)) (i : Int) (zz o : Array Value) (kF : Nat) (cF : Array Value) (QN : Int → Array Value → Prop) (QS : Int → Array Value → Nat → Array Value → Prop) (QE : Array Value → Nat → Array Value → Prop) (QX : Prop) : (stepT (ER n).go (run (ER n) 1000) 0 (rN_F ts k rs gs i zz) (rN_M ts k rs gs i zz)).vc (rOk o kF cF) (rG ts k rs gs QN QS QE QX) =
    ((((0 : Int) ≤ i ∧ i < (↑k : Int)) ∧ True) ∧ (IsInt IntKind.u32 rs ((0 : Nat) + Int.toNat i * (1 : Nat)) ∧ True) ∧ ((getI (intAt rs ((0 : Nat) + Int.toNat i * (1 : Nat))) gs == (1 : Int)) = true → (decide (ari BinOp.add IntKind.i64 i (1 : Int) < (↑k : Int)) = true → QS (ari BinOp.add IntKind.i64 i (1 : Int)) zz (1 : Nat) #[Value.int IntKind.u32 (intAt rs ((0 : Nat) + Int.toNat i * (1 : Nat)))] ∧ CallKind.normal = CallKind.normal ∧ TodoOk (ren 0 [(0, 0), (1, 1), (2, 2), (4, 4), (5, 5), (6, 7)]) rN_d0 rN_d0 ∧ ari BinOp.add IntKind.i64 i (1 : Int) = ari BinOp.add IntKind.i64 i (1 : Int) ∧ (1 : Nat) = (1 : Nat) ∧ k = k ∧ (↑k : Int) = (↑k : Int) ∧ (35 : TypeId) = (35 : TypeId) ∧ ts = ts ∧ (35 : TypeId) = (35 : TypeId) ∧ zz = zz ∧ (30 : TypeId) = (30 : TypeId) ∧ rs = rs ∧ (74 : TypeId) = (74 : TypeId) ∧ (30 : TypeId) = (30 : Nat) ∧ #[Value.int IntKind.u32 (intAt rs ((0 : Nat) + Int.toNat i * (1 : Nat)))] = #[Value.int IntKind.u32 (intAt rs ((0 : Nat) + Int.toNat i * (1 : Nat)))] ∧ IntKind.u32 = IntKind.u32 ∧ VK.i IntKind.i64 = VK.i IntKind.i64 ∧ gs = gs ∧ True) ∧ (decide (ari BinOp.add IntKind.i64 i (1 : Int) < (↑k : Int)) = false → QE zz (1 : Nat) #[Value.int IntKind.u32 (intAt rs ((0 : Nat) + Int.toNat i * (1 : Nat)))] ∧ CallKind.normal = CallKind.normal ∧ TodoOk (ren 0 [(0, 0), (1, 1), (6, 7)]) eS_d0 eS_d0 ∧ (1 : Nat) = (1 : Nat) ∧ (35 : TypeId) = (35 : TypeId) ∧ ts = ts ∧ (35 : TypeId) = (35 : TypeId) ∧ zz = zz ∧ (30 : TypeId) = (30 : Nat) ∧ #[Value.int IntKind.u32 (intAt rs ((0 : Nat) + Int.toNat i * (1 : Nat)))] = #[Value.int IntKind.u32 (intAt rs ((0 : Nat) + Int.toNat i * (1 : Nat)))] ∧ True)) ∧ ((getI (intAt rs ((0 : Nat) + Int.toNat i * (1 : Nat))) gs == (1 : Int)) = false → (decide (ari BinOp.add IntKind.i64 i (1 : Int) < (↑k : Int)) = true → QN (ari BinOp.add IntKind.i64 i (1 : Int)) zz ∧ CallKind.normal = CallKind.normal ∧ TodoOk (ren 0 [(0, 0), (1, 1), (2, 2), (4, 4), (5, 5)]) rN_d0 rN_d0 ∧ ari BinOp.add IntKind.i64 i (1 : Int) = ari BinOp.add IntKind.i64 i (1 : Int) ∧ Value.slice none (0 : Nat) (0 : Nat) = Value.slice none (0 : Nat) (0 : Nat) ∧ k = k ∧ (↑k : Int) = (↑k : Int) ∧ (35 : TypeId) = (35 : TypeId) ∧ ts = ts ∧ (35 : TypeId) = (35 : TypeId) ∧ zz = zz ∧ (30 : TypeId) = (30 : TypeId) ∧ rs = rs ∧ (74 : TypeId) = (74 : TypeId) ∧ IntKind.u32 = IntKind.u32 ∧ VK.i IntKind.i64 = VK.i IntKind.i64 ∧ gs = gs ∧ True) ∧ (decide (ari BinOp.add IntKind.i64 i (1 : Int) < (↑k : Int)) = false → QX))) := by kernel_rfl
theorem rt3 (n : Nat) (ts : Array Value) (k : Nat) (rs : Array Value) (gs : List (Int × Int)) (i : Int) (zz : Array Value) (q : Nat) (cs : Array Value) (o : Array Value) (kF : Nat) (cF : Array Value) (QN : Int → Array Value → Prop) (QS : Int → Array Value → Nat → Array Value → Prop) (QE : Array Value → Nat → Array Value → Prop) (QX : Prop) : (stepT (ER n).go (run (ER n) 1000) 0 (rS_F ts k rs gs i zz q cs) (rS_M ts k rs gs i zz q cs)).vc (rOk o kF cF) (rG ts k rs gs QN QS QE QX) =
    ((((0 : Int) ≤ i ∧ i < (↑k : Int)) ∧ True) ∧ (IsInt IntKind.u32 rs ((0 : Nat) + Int.toNat i * (1 : Nat)) ∧ True) ∧ ((getI (intAt rs ((0 : Nat) + Int.toNat i * (1 : Nat))) gs == (1 : Int)) = true → (((q + 1) * (4 : Nat) ≤ (140737488355328 : Nat) ∧ q + 1 ≤ (140737488355328 : Nat)) ∧ q * (1 : Nat) = Array.size cs ∧ True) ∧ (decide (ari BinOp.add IntKind.i64 i (1 : Int) < (↑k : Int)) = true → QS (ari BinOp.add IntKind.i64 i (1 : Int)) zz (q + 1) (cs ++ #[Value.int IntKind.u32 (intAt rs ((0 : Nat) + Int.toNat i * (1 : Nat)))]) ∧ CallKind.normal = CallKind.normal ∧ TodoOk (ren 0 [(0, 0), (1, 1), (2, 2), (4, 4), (5, 5), (6, 8)]) rN_d0 rN_d0 ∧ ari BinOp.add IntKind.i64 i (1 : Int) = ari BinOp.add IntKind.i64 i (1 : Int) ∧ q + 1 = q + 1 ∧ k = k ∧ (↑k : Int) = (↑k : Int) ∧ (35 : TypeId) = (35 : TypeId) ∧ ts = ts ∧ (35 : TypeId) = (35 : TypeId) ∧ zz = zz ∧ (30 : TypeId) = (30 : TypeId) ∧ rs = rs ∧ (74 : TypeId) = (74 : TypeId) ∧ (30 : TypeId) = (30 : Nat) ∧ cs ++ #[Value.int IntKind.u32 (intAt rs ((0 : Nat) + Int.toNat i * (1 : Nat)))] = cs ++ #[Value.int IntKind.u32 (intAt rs ((0 : Nat) + Int.toNat i * (1 : Nat)))] ∧ IntKind.u32 = IntKind.u32 ∧ VK.i IntKind.i64 = VK.i IntKind.i64 ∧ gs = gs ∧ True) ∧ (decide (ari BinOp.add IntKind.i64 i (1 : Int) < (↑k : Int)) = false → QE zz (q + 1) (cs ++ #[Value.int IntKind.u32 (intAt rs ((0 : Nat) + Int.toNat i * (1 : Nat)))]) ∧ CallKind.normal = CallKind.normal ∧ TodoOk (ren 0 [(0, 0), (1, 1), (6, 8)]) eS_d0 eS_d0 ∧ q + 1 = q + 1 ∧ (35 : TypeId) = (35 : TypeId) ∧ ts = ts ∧ (35 : TypeId) = (35 : TypeId) ∧ zz = zz ∧ (30 : TypeId) = (30 : Nat) ∧ cs ++ #[Value.int IntKind.u32 (intAt rs ((0 : Nat) + Int.toNat i * (1 : Nat)))] = cs ++ #[Value.int IntKind.u32 (intAt rs ((0 : Nat) + Int.toNat i * (1 : Nat)))] ∧ True)) ∧ ((getI (intAt rs ((0 : Nat) + Int.toNat i * (1 : Nat))) gs == (1 : Int)) = false → (decide (ari BinOp.add IntKind.i64 i (1 : Int) < (↑k : Int)) = true → QS (ari BinOp.add IntKind.i64 i (1 : Int)) zz q cs ∧ CallKind.normal = CallKind.normal ∧ TodoOk (ren 0 [(0, 0), (1, 1), (2, 2), (4, 4), (5, 5), (6, 6)]) rN_d0 rN_d0 ∧ ari BinOp.add IntKind.i64 i (1 : Int) = ari BinOp.add IntKind.i64 i (1 : Int) ∧ q = q ∧ k = k ∧ (↑k : Int) = (↑k : Int) ∧ (35 : TypeId) = (35 : TypeId) ∧ ts = ts ∧ (35 : TypeId) = (35 : TypeId) ∧ zz = zz ∧ (30 : TypeId) = (30 : TypeId) ∧ rs = rs ∧ (74 : TypeId) = (74 : TypeId) ∧ (30 : TypeId) = (30 : TypeId) ∧ cs = cs ∧ IntKind.u32 = IntKind.u32 ∧ VK.i IntKind.i64 = VK.i IntKind.i64 ∧ gs = gs ∧ True) ∧ (decide (ari BinOp.add IntKind.i64 i (1 : Int) < (↑k : Int)) = false → QE zz q cs ∧ CallKind.normal = CallKind.normal ∧ TodoOk (ren 0 [(0, 0), (1, 1), (6, 6)]) eS_d0 eS_d0 ∧ q = q ∧ (35 : TypeId) = (35 : TypeId) ∧ ts = ts ∧ (35 : TypeId) = (35 : TypeId) ∧ zz = zz ∧ (30 : TypeId) = (30 : TypeId) ∧ cs = cs ∧ True))) := by kernel_rfl
theorem rt4 (n : Nat) (ts : Array Value) (zz : Array Value) (q : Nat) (cs : Array Value) (o : Array Value) (kF : Nat) (cF : Array Value) : (stepT (ER n).go (run (ER n) 1000) 0 (eS_F ts zz q cs) (eS_M ts zz q cs)).vc (rOk o kF cF) (fun _ _ => False) =
    ((Array.size ts = (144 : Nat) ∧ True) ∧ (TsOk ts ∧ (∀ (x : Int), List.Mem x (ints cs) → ((0 : Int) ≤ x ∧ x < (4294967296 : Int)) ∧ slotI x < (16 : Int)) ∧ List.length (ints cs) ≤ (32 : Nat) ∧ cs = u32s (ints cs) ∧ q = List.length (ints cs) ∧ True) ∧ (Array.size (outT ts (ints cs) (List.length (ints cs))) = (144 : Nat) ∧ Array.size (outT ts (ints cs) (List.length (ints cs))) = Array.size zz ∧ True) ∧ (Array.size (outT ts (ints cs) (List.length (ints cs))) = (144 : Nat) ∧ True) ∧ outT ts (ints cs) (List.length (ints cs)) = o ∧ q = kF ∧ cs = cF ∧ (30 : TypeId) = (30 : TypeId) ∧ (0 : Int) = (0 : Int)) := by kernel_rfl
end Go.Proofs.Ytnjmockpdmchcaa
