/- Of calls that are told whole: lists of them. No condition. -/
import Derived.Test.YtalaegjdldllfaaGreatDoorK19
set_option linter.unusedVariables false
set_option linter.unusedSimpArgs false
namespace Go.Proofs.YtalaegjdldllfaaGreatDoor
theorem okN : ∀ c ∈ ([] : List CC), c.Ok := fun _ h => by cases h
theorem okC {c : CC} {L : List CC} (h : c.Ok) (hL : ∀ x ∈ L, x.Ok) : ∀ x ∈ c :: L, x.Ok := by
  intro x hx
  rcases List.mem_cons.1 hx with e | hx
  · rw [e]; exact h
  · exact hL x hx
/-- A test that is known to say yes, and calls that are told. -/
noncomputable def conW2 (wk : FuncId) (L : List CC) (g : FuncId) (l : List SV) (m : SMem) : Option Tree := match l with
  | [] => match Nat.beq g wk with
    | true => some (needs [] (.ret (sB (.l true)) m))
    | false => conL L g [] m
  | a :: l => conL L g (a :: l) m
noncomputable def EC2 (ro : List Nat) (wk : FuncId) (L : List CC) : Env := ⟨Tryz.prog, fnOf, conW2 wk L, fun d g _ => match Nat.beq d 1000000 with
  | true => memB ro g
  | false => false⟩
theorem EC2_ok (ro : List Nat) {wk : FuncId} {L : List CC} (hw : ∀ m, Con E0 wk [] m (needs [] (.ret (sB (.l true)) m))) (h : ∀ c ∈ L, c.Ok) : EnvOk (EC2 ro wk L) := by
  refine EnvOk.with E0_ok _ _ fun g l m t e => ?_
  cases l with
  | nil =>
    have e : (match Nat.beq g wk with | true => some (needs [] (.ret (sB (.l true)) m)) | false => conL L g [] m) = some t := e
    split at e
    · rename_i hg
      cases e
      rw [Nat.eq_of_beq_eq_true hg]
      exact hw m
    · exact conL_ok h g [] m t e
  | cons a l => exact conL_ok h g (a :: l) m t e
/-- A closed test that is told whole says yes wherever it is called. -/
theorem wk_of {c : CC} (hc : c.Ok) (h1 : c.l = []) (h2 : c.n = 0) (h3 : c.bl = .nil) (h4 : c.s0 = sB (.l true)) (m : SMem) : Con E0 c.g [] m (needs [] (.ret (sB (.l true)) m)) := by
  obtain ⟨fn, b, e1, e2, _, good⟩ := hc
  refine Con.pure E0_ok e1 e2 rfl rfl fun _ => ?_
  rw [h1, h2] at good
  have em : c.ms = ⟨0, .nil, []⟩ := by unfold CC.ms; rw [h2, h3]
  rw [em] at good
  exact good.mono fun s m' h => h.1.trans h4
end Go.Proofs.YtalaegjdldllfaaGreatDoor
