/- Of lists of numbers; blocks that stand twice. No condition. -/
import Derived.Test.YtahfhgdafobfmaaDoorK8b
namespace Go.Proofs.YtahfhgdafobfmaaDoor

theorem memB_iff : ∀ {l : List Nat} {n : Nat}, memB l n = true ↔ n ∈ l
  | [], n => by simp [memB]
  | a :: l, n => by
    simp only [memB, Bool.or_eq_true, memB_iff (l := l), List.mem_cons, Nat.beq_eq]
    constructor
    · rintro (h | h)
      · exact .inl h.symm
      · exact .inr h
    · rintro (h | h)
      · exact .inl h.symm
      · exact .inr h
theorem getB_compact : ∀ {l : List SBlk} {seen : List Nat} {i : Nat} {b : SBlk}, getB (compact l seen) i = some b → i ∉ seen ∧ getB l i = some b
  | [], _, _, _, h => by cases h
  | c :: l, seen, i, b, h => by
    simp only [compact] at h
    split at h
    · rename_i hc
      obtain ⟨h1, h2⟩ := getB_compact h
      refine ⟨h1, ?_⟩
      have : ¬ Nat.beq c.id i = true := by
        intro e
        have e' : c.id = i := by simpa using e
        exact h1 (e' ▸ memB_iff.1 hc)
      simp only [getB]
      rw [if_neg this]
      exact h2
    · rename_i hc
      simp only [getB] at h ⊢
      split at h
      · rename_i e
        have e' : c.id = i := by simpa using e
        refine ⟨fun hs => hc (memB_iff.2 (e' ▸ hs)), ?_⟩
        rw [if_pos e]
        exact h
      · rename_i e
        obtain ⟨h1, h2⟩ := getB_compact h
        rw [if_neg e]
        exact ⟨fun hs => h1 (List.mem_cons_of_mem _ hs), h2⟩
theorem Rel.compact {n0 : Nat} {F : Nat → Prop} {w0 w : World} {R : Ren} {m : SMem} (h : Rel n0 F w0 R m w) : Rel n0 F w0 R ⟨m.next, Go.Proofs.YtahfhgdafobfmaaDoor.compact m.bl [], m.xs⟩ w :=
  { inj := fun i j g k b c h1 h2 h3 h4 h5 => h.inj i j g k b c h1 h2 h3 (getB_compact h4).2 (getB_compact h5).2, lt := h.lt, nx := h.nx, blk := fun i b hb => h.blk i b (getB_compact hb).2, base := h.base, fr := h.fr, xo := h.xo, xi := h.xi, gl := h.gl }

end Go.Proofs.YtahfhgdafobfmaaDoor
