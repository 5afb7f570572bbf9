/- Of mail: from a next state on. No condition. -/
import Derived.Test.YtkahmhcfhefneaaPL
namespace Go.Proofs.Ytkahmhcfhefneaa
/-- From the next round's state, as it is come to. -/
theorem pNext_of {td : List SIt} {off n : Nat} {ds : Array Value} {ty : TypeId} {nx : Int} {fs : List SFr} {m : SMem} {A : SV → SMem → Prop} (h : pNext td off n ds ty nx fs m)
    (hg : ∀ ms c w h hc v, pInv n ms w nx → VOk h hc v → Good Try.prog A 1 [pFr td off n nx] (pM ds ty ms c w h hc v)) : Good Try.prog A 1 fs m := by
  unfold pNext at h
  split at h
  case h_2 => exact h.elim
  split at h
  case h_2 => exact h.elim
  split at h
  case h_2 => exact h.elim
  split at h
  · obtain ⟨rfl, rfl, h1, h2, h3⟩ := h
    exact Good.of_sub h3 (hg _ _ _ _ _ _ h1 h2)
  · obtain ⟨rfl, rfl, h1, h2, h3⟩ := h
    exact Good.of_sub h3 (hg _ _ _ _ _ _ h1 h2)
  · obtain ⟨rfl, rfl, _, h1, h2, h3⟩ := h
    exact Good.of_sub h3 (hg _ _ _ _ _ _ h1 h2)
  · obtain ⟨rfl, rfl, _, h1, h2, h3⟩ := h
    exact Good.of_sub h3 (hg _ _ _ _ _ _ h1 h2)
  · exact h.elim
end Go.Proofs.Ytkahmhcfhefneaa
