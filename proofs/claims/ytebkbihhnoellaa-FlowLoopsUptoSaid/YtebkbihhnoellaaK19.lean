/- Calls that are told whole: what they are handed, what they leave. No condition. -/
import Derived.Test.YtebkbihhnoellaaK18
import Derived.Test.YtebkbihhnoellaaK15
set_option linter.unusedVariables false
set_option linter.unusedSimpArgs false
namespace Go.Proofs.Ytebkbihhnoellaa
set_option linter.unusedSectionVars false
noncomputable section
/-- A call that is told whole. -/
structure CC where
  g : FuncId
  l : List SV
  n : Nat
  bl : Tr SBlk
  s0 : SV
  n' : Nat
  bl' : Tr SBlk
def lsT (bl : Tr SBlk) : List Nat → List (Nat × SBlk)
  | [] => []
  | i :: l => match getB bl i with
    | some b => (i, b) :: lsT bl l
    | none => lsT bl l
def CC.ms (c : CC) : SMem := ⟨c.n, c.bl, []⟩
def CC.ms' (c : CC) : SMem := ⟨c.n', c.bl', []⟩
def CC.has (c : CC) (m : SMem) : Bool := allB (fun i => match getB c.bl i with
  | none => true
  | some b => match getB m.bl i with
    | some d => eqBk b d
    | none => false) c.bl.keys
def CC.hit (c : CC) (g : FuncId) (l : List SV) (m : SMem) : Bool := match Nat.beq c.g g with
  | true => match Nat.beq c.n m.next with
    | true => match eqLs eqSV c.l l with
      | true => c.has m
      | false => false
    | false => false
  | false => false
def CC.out (c : CC) (m : SMem) : Tree := .ret c.s0 ⟨c.n', insB (lsT c.bl' c.bl'.keys) m.bl, m.xs⟩
def CC.chk (c : CC) : Bool :=
  (allB (fun i => match getB c.bl i with
    | none => true
    | some b => Nat.blt i c.n && (b.arr.lt c.n && (getB c.bl' i).isSome)) c.bl.keys &&
  allB (fun i => match getB c.bl' i with
    | none => true
    | some b => match Nat.blt i c.n with
      | false => true
      | true => match getB c.bl i with
        | none => false
        | some d => eqBo d.wr b.wr) c.bl'.keys) && (Nat.ble c.n c.n' && allB (SV.lt c.n) c.l)
def conL (L : List CC) (g : FuncId) (l : List SV) (m : SMem) : Option Tree := List.rec (motive := fun _ => Option Tree) none (fun c _ ih => match c.hit g l m with
  | true => some (c.out m)
  | false => ih) L
end
def CC.Ok (c : CC) : Prop := ∃ fn b, E0.fn c.g = some fn ∧ fn.body = some b ∧ c.chk = true ∧ Good Try.prog (fun s m' => s = c.s0 ∧ m' = c.ms') c.n [callFr c.g fn.ntmps c.l b] c.ms
theorem mapL_id {α : Type} {f : α → α} (h : ∀ a, f a = a) : ∀ l : List α, mapL f l = l
  | [] => rfl
  | a :: l => by rw [mapL, h, mapL_id h l]
section
variable {f : Nat → Nat} (h : ∀ i, f i = i)
include h
theorem SF.re_id (x : SF) : x.re f = x := by
  cases x <;> simp only [SF.re, h]
theorem SC.re_id (x : SC) : x.re f = x := by
  cases x <;> simp only [SC.re, h, mapL_id (SF.re_id h), SF.re_id h]
theorem SA.re_id (x : SA) : x.re f = x := by
  cases x <;> simp only [SA.re, mapL_id (SC.re_id h)]
theorem S1.re_id (x : S1) : x.re f = x := by
  cases x <;> simp only [S1.re, SC.re_id h, SA.re_id h]
theorem SV.re_id (x : SV) : x.re f = x := by
  cases x <;> simp only [SV.re, S1.re_id h, mapL_id (S1.re_id h)]
theorem reL_id (bl : Tr SBlk) (l : List Nat) : reL f bl l = lsT bl l := by
  induction l with
  | nil => rfl
  | cons i l ih =>
    unfold reL lsT
    cases getB bl i with
    | none => exact ih
    | some b => dsimp only; rw [h, SA.re_id h, ih]
end
theorem push_id (k i : Nat) : push (fun j => j) k k i = i := by
  unfold push
  split
  · rfl
  · rename_i h
    have h : ¬ i < k := fun e => h (by simpa using e)
    omega
theorem pull_cut (k : Nat) (R : Ren) : pull (fun j => j) k R = cutR R k := rfl
theorem CC.hit_ok {c : CC} {g : FuncId} {l : List SV} {m : SMem} (h : c.hit g l m = true) : c.g = g ∧ c.n = m.next ∧ c.l = l ∧ c.has m = true := by
  unfold CC.hit at h
  split at h
  case h_2 => cases h
  rename_i h1
  split at h
  case h_2 => cases h
  rename_i h2
  split at h
  case h_2 => cases h
  rename_i h3
  exact ⟨Nat.eq_of_beq_eq_true h1, Nat.eq_of_beq_eq_true h2, eqLs_ok (fun e => eqSV_ok e) h3, h⟩
theorem cut_all {R : Ren} {k : Nat} : ∀ {l : List SV} {vs : List Value}, allB (SV.lt k) l = true → All2 (SV.ok R) l vs → All2 (SV.ok (cutR R k)) l vs
  | [], [], _, _ => trivial
  | a :: l, v :: vs, h, hv => by
    simp only [allB_cons, Bool.and_eq_true] at h
    exact ⟨SV.cut h.1 hv.1, cut_all h.2 hv.2⟩
  | [], _ :: _, _, h => h.elim
  | _ :: _, [], _, h => h.elim
theorem CC.con {c : CC} (hc : c.Ok) {m : SMem} (hn : c.n = m.next) (hm : c.has m = true) : Con E0 c.g c.l m (c.out m) := by
  obtain ⟨fn, b, h1, h2, h3, good⟩ := hc
  intro A hs
  have hs : A c.s0 ⟨c.n', insB (lsT c.bl' c.bl'.keys) m.bl, m.xs⟩ := hs
  refine ⟨fn, h1, by rw [h2]; rfl, fun n0 F w0 w R args hl hR => ?_⟩
  simp only [CC.chk, Bool.and_eq_true] at h3
  obtain ⟨⟨k1, k2⟩, k3, k4⟩ := h3
  have kb : ∀ i b, getB c.bl i = some b → i < c.n ∧ b.arr.lt c.n = true ∧ (getB c.bl' i).isSome = true := by
    intro i b hb
    have := allB_iff.1 k1 i (Tr.mem_keys hb)
    rw [hb] at this
    simp only [Bool.and_eq_true] at this
    exact ⟨by simpa using this.1, this.2.1, this.2.2⟩
  have kd : ∀ i b, getB c.bl' i = some b → i < c.n → ∃ d, getB c.bl i = some d ∧ d.wr = b.wr := by
    intro i b hb hi
    have := allB_iff.1 k2 i (Tr.mem_keys hb)
    rw [hb] at this
    have e : Nat.blt i c.n = true := by simpa using hi
    rw [e] at this
    cases hd : getB c.bl i with
    | none => rw [hd] at this; cases this
    | some d =>
      rw [hd] at this
      exact ⟨d, rfl, eqBo_ok this⟩
  have hle : c.n ≤ c.n' := Nat.le_of_ble_eq_true k3
  have hmb : ∀ i b, getB c.bl i = some b → getB m.bl i = some b := by
    intro i b hb
    have := allB_iff.1 hm i (Tr.mem_keys hb)
    rw [hb] at this
    cases hd : getB m.bl i with
    | none => rw [hd] at this; cases this
    | some d =>
      rw [hd] at this
      rw [eqBk_ok this]
  have hl' : All2 (SV.ok (pull (fun j => j) c.ms.next R)) c.l args.toList := cut_all k4 hl
  refine (frame (m := m) (ms' := c.ms') (hE_fn h1) h2 good rfl (ι := fun j => j) (fun _ _ _ _ h => h) (fun i hi => by rw [← hn]; exact hi) ?_ ?_ ?_ hle hl' hR).mono ?_
  · intro i b hb
    obtain ⟨e1, e2, e3⟩ := kb i b hb
    exact ⟨e1, b, hmb i b hb, rfl, fun h => h, fun R cs h => SA.cutM e2 h⟩
  · intro i b hb _
    exact (kb i b hb).2.2
  · intro i b hb hi
    exact kd i b hb hi
  · rintro v w' ⟨R', hX, hR', hv⟩
    have e1 : m.next + (c.ms'.next - c.ms.next) = c.n' := by
      show m.next + (c.n' - c.n) = c.n'
      omega
    have e2 : ∀ i, push (fun j => j) c.ms.next m.next i = i := by
      intro i
      show push (fun j => j) c.n m.next i = i
      rw [← hn]
      exact push_id c.n i
    rw [e1] at hX hR'
    rw [reL_id e2] at hR'
    rw [SV.re_id e2] at hv
    exact ⟨_, _, R', hs, hX, hR', hv⟩
where
  hE_fn {g : FuncId} {fn : Func} (h : E0.fn g = some fn) : Try.prog.funcs[g]? = some fn := (E0_ok.fns _ _ h).1
theorem conL_ok {L : List CC} (h : ∀ c ∈ L, c.Ok) (g : FuncId) (l : List SV) (m : SMem) (t : Tree) : conL L g l m = some t → Con E0 g l m t := by
  induction L with
  | nil => intro e; cases e
  | cons c L ih =>
    intro e
    have e' : (match c.hit g l m with | true => some (c.out m) | false => conL L g l m) = some t := e
    split at e'
    · rename_i hh
      cases e'
      obtain ⟨rfl, h2, rfl, h4⟩ := CC.hit_ok hh
      exact CC.con (h c (List.mem_cons_self ..)) h2 h4
    · exact ih (fun x hx => h x (List.mem_cons_of_mem _ hx)) e'
noncomputable section
/-- The program, with calls that are told; and which functions only read what they are handed. -/
def EC (ro : List Nat) (L : List CC) : Env := ⟨Try.prog, fnOf, conL L, fun d g _ => match Nat.beq d 1000000 with
  | true => memB ro g
  | false => false⟩
/-- What an end says of itself. -/
def selfR (base : Nat) (π : List (Nat × Nat)) (s : SV) (m : SMem) : List Prop := match andO (s.same (ren base π) s) (sameM (ren base π) m m) with
  | some q => q
  | none => []
end
theorem EC_ok (ro : List Nat) {L : List CC} (h : ∀ c ∈ L, c.Ok) : EnvOk (EC ro L) := EnvOk.with E0_ok _ _ (conL_ok h)
theorem selfR_ok {base : Nat} {π : List (Nat × Nat)} {s : SV} {m : SMem} (h : (idP π && onceX m.xs) = true) : allP (selfR base π s m) := by
  simp only [Bool.and_eq_true] at h
  refine allP_mk fun p hp => ?_
  unfold selfR at hp
  split at hp
  · rename_i q hq
    exact AllT.and (s.self _) (sameM_self (ren_id h.1) m h.2) q hq p hp
  · cases hp
theorem CC.mk_ok {ro : List Nat} {L : List CC} (hL : ∀ c ∈ L, c.Ok) (c : CC) {fn : Func} {b : Code} {π : List (Nat × Nat)} {n : Nat} (h1 : E0.fn c.g = some fn) (h2 : fn.body = some b) (h3 : c.chk = true) (h4 : (idP π && onceX c.ms'.xs) = true)
    (e : (runC (EC ro L) n c.n [callFr c.g fn.ntmps c.l b] c.ms).vc (retOk c.n π c.s0 c.ms') (fun _ _ => False) = allP (selfR c.n π c.s0 c.ms')) : c.Ok := by
  rw [runC_eq] at e
  exact ⟨fn, b, h1, h2, h3, Good.ret π (run_vc (EC_ok ro hL) n e (selfR_ok h4) (fun _ _ h => h) (fun _ _ h => h.elim))⟩
end Go.Proofs.Ytebkbihhnoellaa
