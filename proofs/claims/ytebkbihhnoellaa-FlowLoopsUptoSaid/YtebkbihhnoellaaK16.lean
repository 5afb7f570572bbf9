/- A run that stops behind so many steps, at a place that may be told. No condition. -/
import Derived.Test.YtebkbihhnoellaaF1
import Derived.Test.YtebkbihhnoellaaK14
set_option linter.unusedVariables false
set_option linter.unusedSimpArgs false
namespace Go.Proofs.Ytebkbihhnoellaa
set_option linter.unusedSectionVars false
noncomputable section
/-- A place that may be told: a region that begins, not too deep. -/
def atHead (B D : Nat) (base : Nat) (fs : List SFr) : Bool :=
  match Nat.beq base B with
  | true => match fs with
    | f :: cs => match f.md with
      | .run => match f.todo with
        | .it (.code (.region _ _ _)) :: _ => Nat.ble (len cs) D
        | _ => false
      | _ => false
    | [] => false
  | false => false
def runQ (E : Env) (B D b : Nat) : Nat → List SFr → SMem → Tree :=
  Nat.rec (fun _ _ _ => .fail 0) (fun _ ih base fs m => match atHead B D base fs with
    | true => .stop fs m
    | false => stepC E ih base fs m) b
def runS (E : Env) (B D b a : Nat) : Nat → List SFr → SMem → Tree :=
  Nat.rec (runQ E B D b) (fun _ ih => stepC E ih) a
end
section
variable {E : Env} (hE : EnvOk E)
include hE
theorem stepC_ok {r : Nat → List SFr → SMem → Tree} (hr : RunOk E r) : RunOk E (stepC E r) := by
  have e : stepC E r = stepT E r := by
    funext base fs m
    exact stepC_eq ..
  rw [e]
  exact stepT_ok hE hr (draw_ok hE hr) (drawH_ok hE hr)
theorem runQ_ok (B D : Nat) : ∀ b, RunOk E (runQ E B D b)
  | 0 => fun _ _ _ _ _ _ _ _ _ _ _ _ _ _ _ h => h.elim
  | b + 1 => by
    intro base fs m n0 F w0 ws w Rs R fr frs A B' Φ h hf hR hX hs hA hB
    have h : (match atHead B D base fs with
      | true => Tree.stop fs m
      | false => stepC E (runQ E B D b) base fs m).sat A B' := h
    split at h
    · exact hB fs m R w fr frs h rfl hX hR hf
    · exact stepC_ok hE (runQ_ok B D b) base fs m n0 F w0 ws w Rs R fr frs A B' Φ h hf hR hX hs hA hB
theorem runS_ok (B D b : Nat) : ∀ a, RunOk E (runS E B D b a)
  | 0 => runQ_ok hE B D b
  | a + 1 => stepC_ok hE (runS_ok B D b a)
theorem good_S {A : SV → SMem → Prop} {B D b a base : Nat} {fs fs1 : List SFr} {m m1 : SMem} {π : List (Nat × Nat)} {V : Prop}
    (e : (runS E B D b a base fs m).vc A (fun f m' => subOk base π fs1 m1 f m') = V) (h : V) (hg : Good E.P A base fs1 m1) : Good E.P A base fs m :=
  good_of (runS_ok hE B D b a) (Tree.sat_of_vc (fun _ _ h => h) (fun _ _ hb => Good.of_sub hb hg) (e ▸ h))
end
end Go.Proofs.Ytebkbihhnoellaa
