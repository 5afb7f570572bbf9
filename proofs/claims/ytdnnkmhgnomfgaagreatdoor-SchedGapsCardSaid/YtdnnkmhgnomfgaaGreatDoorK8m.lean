/- Of lists of numbers; blocks that stand twice. No condition. -/
import Derived.Test.YtdnnkmhgnomfgaaGreatDoorK8b
namespace Go.Proofs.YtdnnkmhgnomfgaaGreatDoor

theorem memB_iff : ∀ {l : List Nat} {n : Nat}, memB l n = true ↔ n ∈ l
  | [], n => by simp [memB_nil]
  | a :: l, n => by
    simp only [memB_cons, Bool.or_eq_true, memB_iff (l := l), List.mem_cons, Nat.beq_eq]
    constructor
    · rintro (h | h)
      · exact .inl h.symm
      · exact .inr h
    · rintro (h | h)
      · exact .inl h.symm
      · exact .inr h
end Go.Proofs.YtdnnkmhgnomfgaaGreatDoor
