/- Contracts of functions of numbers that make a row of their own. No condition. -/
import Derived.Test.YtpohnmafnpnmeaaK14
set_option linter.unusedVariables false
set_option linter.unusedSimpArgs false
namespace Go.Proofs.Ytpohnmafnpnmeaa
def freeA : SA → Bool
  | .pop _ | .op _ => true
  | _ => false
theorem free_ok {R R' : Ren} {a : SA} {cs : Array Value} (h : freeA a = true) (ha : a.okM R cs) : a.ok R' cs := by
  cases a <;> first | exact ha | cases h
theorem Good.retX {P : Program} {base : Nat} {fs : List SFr} {m s0m : SMem} {s0 : SV} (hg : Good P (fun s m' => ∃ π, retOk base π s0 s0m s m') base fs m) : Good P (fun s m' => s = s0 ∧ m' = s0m) base fs m := by
  intro n0 F w0 ws w Rs R fr frs hf hR hX hs
  refine (hg n0 F w0 ws w Rs R fr frs hf hR hX hs).mono ?_
  rintro v w' ⟨s, m', R', ⟨π, hA⟩, hX', hR', hv⟩
  unfold retOk at hA
  split at hA
  case isFalse => exact hA.elim
  rename_i hc
  simp only [Bool.and_eq_true] at hc
  obtain ⟨hb, hk⟩ := hc
  have hb := Nat.le_of_ble_eq_true hb
  split at hA
  case h_2 => exact hA.elim
  rename_i q hq
  obtain ⟨x, y, hx, hy, rfl⟩ := andO_some hq
  have hA := allP_iff hA
  obtain ⟨h1, h2⟩ := Rel.sub hb hk hy (fun p hp => hA p (List.mem_append_right _ hp)) hR' hX' hs
  exact ⟨s0, s0m, _, ⟨rfl, rfl⟩, h2, h1, SV.same_ok (fun i j e => renR_ok e) hx (fun p hp => hA p (List.mem_append_left _ hp)) hv⟩
end Go.Proofs.Ytpohnmafnpnmeaa
