/- Of lists of numbers; blocks that stand twice. No condition. -/
import Derived.Test.YtjjeahnbppmigaaDoorK8b
set_option linter.unusedVariables false
set_option linter.unusedSimpArgs false
namespace Go.Proofs.YtjjeahnbppmigaaDoor

theorem memB_iff : ∀ {l : List Nat} {n : Nat}, memB l n = true ↔ n ∈ l
  | [], n => by simp [memB_nil]
  | a :: l, n => by
    simp only [memB_cons, Bool.or_eq_true, memB_iff (l := l), List.mem_cons, Nat.beq_eq]
    constructor
    · rintro (h | h)
      · exact .inl h.symm
      · exact .inr h
    · rintro (h | h)
      · exact .inl h.symm
      · exact .inr h
theorem setIfInBounds_same {l : Array Value} {i : Nat} {v : Value} (h : l[i]? = some v) : l.setIfInBounds i v = l := by
  apply Array.ext_getElem?
  intro j
  rw [Array.getElem?_setIfInBounds]
  split
  · rename_i e
    subst e
    split
    · exact h.symm
    · rename_i hlt
      rw [Array.getElem?_eq_none (by omega)] at h
      cases h
  · rfl
def SplitOf (T : Tm) (o : Op) (T0 : Tm) : Prop := T0 = T ∨ ∃ n, splitA T o = some (n, T0) ∧ n = 0
theorem splitT_sat {T : Tm} {o : Op} {k : Tm → Tree} {A : SV → SMem → Prop} {B : List SFr → SMem → Prop} (h : (splitT T o k).sat A B) : ∃ T0, SplitOf T o T0 ∧ (k T0).sat A B := by
  unfold splitT at h
  split at h
  · rename_i n T0 hs
    by_cases hn : n = 0
    · exact ⟨T0, .inr ⟨n, hs, hn⟩, h.1 (by simpa using hn)⟩
    · exact ⟨T, .inl rfl, h.2 (by simpa using hn)⟩
  · exact ⟨T, .inl rfl, h⟩
theorem SplitOf.ok {R : Ren} {T T0 : Tm} {o : Op} {tmps : Array Value} (h : SplitOf T o T0) (hT : TmOkA R T tmps) : TmOkA R T0 tmps := by
  rcases h with rfl | ⟨n, h, hn⟩
  · exact hT
  · unfold splitA at h
    split at h
    case h_2 => cases h
    split at h
    case h_2 => cases h
    split at h
    · rename_i hj
      split at h
      case h_2 => cases h
      simp only [Option.some.injEq, Prod.mk.injEq] at h
      obtain ⟨e1, rfl⟩ := h
      obtain ⟨v, hv1, hv2⟩ := hT.2 _ _ hj
      obtain ⟨g, c, k1, k2, _, _⟩ := hv2
      have hn0 : ∀ x : Nat, x = n → ∀ z : Option Addr, ∀ c, v = .slice z x c → (SV.s (.c (.f .e0))).ok R v := by
        intro x hx z c e
        rw [hx, hn] at e
        exact ⟨z, c, e⟩
      have hv := hn0 _ e1 _ _ k2
      have hall : ∀ j, tmps[j]? = some v → TmOkA R (T.set j (some (.s (.c (.f .e0))))) tmps := by
        intro j hj
        have := hT.set j hv
        rw [setIfInBounds_same hj] at this
        exact this
      exact hall _ hv1
    · cases h
end Go.Proofs.YtjjeahnbppmigaaDoor
