/- Of sched: SchedGaps, of picks that may be read. No condition. -/
import Derived.Test.YtdnnkmhgnomfgaaGreatDoorS3
import Derived.IntWalk
namespace Go.Proofs.YtdnnkmhgnomfgaaGreatDoor
set_option maxRecDepth 100000
theorem i64w {x : Int} (h : -9223372036854775808 ≤ x ∧ x ≤ 9223372036854775807) : IntKind.i64.wrap x = x := Go.IntWalk.i64_in x h
theorem tk_a0 : TodoOk (ren 2 []) aTodo0 aTodo0 := TodoOk.same (by kernel_rfl)
theorem tk_a : TodoOk (ren 2 []) aTodo aTodo := TodoOk.same (by kernel_rfl)
theorem tk_b0 : TodoOk (ren 2 []) bTodo0 bTodo0 := TodoOk.same (by kernel_rfl)
theorem tk_b : TodoOk (ren 2 []) bTodo bTodo := TodoOk.same (by kernel_rfl)
theorem tk_c0 : TodoOk (ren 2 []) cTodo0 cTodo0 := TodoOk.same (by kernel_rfl)
theorem tk_c : TodoOk (ren 2 []) cTodo cTodo := TodoOk.same (by kernel_rfl)
theorem tk_1 : TodoOk (ren 2 []) lTodo1 lTodo1 := TodoOk.same (by kernel_rfl)
theorem tk_2 : TodoOk (ren 2 []) lTodo2 lTodo2 := TodoOk.same (by kernel_rfl)
def PicksOk (ds : Array Value) (off n : Nat) : Prop := ∀ j : Nat, j < n → IsInt .u8 ds (off + j)
section
variable {ds : Array Value} {off n : Nat} {ty : TypeId} {t : Int}
theorem aNext_of {td ltd : List SIt} {nx : Int} {fs : List SFr} {m : SMem} {A : SV → SMem → Prop} (h : aNext td ltd off n ds ty t nx fs m)
    (hg : ∀ most nn, aInv ds off n t most nn nx → Good Tryz.prog A 2 [gFr td off n t most nn nx, lFr1 ltd off n t] (m0 ds ty)) : Good Tryz.prog A 2 fs m := by
  unfold aNext at h
  split at h
  case h_2 => exact h.elim
  split at h
  case h_2 => exact h.elim
  obtain ⟨rfl, h1, h2⟩ := h
  exact Good.of_sub h2 (hg _ _ h1)
theorem bNext_of {td ltd : List SIt} {g nx : Int} {fs : List SFr} {m : SMem} {A : SV → SMem → Prop} (h : bNext td ltd off n ds ty t g nx fs m)
    (hg : ∀ best, bInv ds off n t g best nx → Good Tryz.prog A 2 [rFr td off n t best nx, lFr2 ltd g] (m0 ds ty)) : Good Tryz.prog A 2 fs m := by
  unfold bNext at h
  split at h
  case h_2 => exact h.elim
  split at h
  case h_2 => exact h.elim
  obtain ⟨rfl, rfl, h1, h2⟩ := h
  exact Good.of_sub h2 (hg _ h1)
theorem cNext_of {td ltd : List SIt} {g nxi nxk : Int} {fs : List SFr} {m : SMem} {A : SV → SMem → Prop} (h : cNext td ltd off n ds ty t g nxi nxk fs m)
    (hg : ∀ best nn, cInv ds off n t g best nxi nn nxk → Good Tryz.prog A 2 [qFr td off n t best nxi nn nxk, lFr2 ltd g] (m0 ds ty)) : Good Tryz.prog A 2 fs m := by
  unfold cNext at h
  split at h
  case h_2 => exact h.elim
  split at h
  case h_2 => exact h.elim
  obtain ⟨rfl, rfl, h1, h2⟩ := h
  exact Good.of_sub h2 (hg _ _ h1)
theorem abNext_of {nx most : Int} {fs : List SFr} {m : SMem} {A : SV → SMem → Prop} (h : abNext off n ds ty t nx most fs m)
    (ha : ∀ most nn, aInv ds off n t most nn nx → Good Tryz.prog A 2 [gFr aTodo off n t most nn nx, lFr1 lTodo1 off n t] (m0 ds ty))
    (hb : ∀ best, bInv ds off n t most best 0 → Good Tryz.prog A 2 [rFr bTodo0 off n t best 0, lFr2 lTodo2 most] (m0 ds ty)) : Good Tryz.prog A 2 fs m := by
  unfold abNext at h
  split at h
  · exact aNext_of h ha
  · exact bNext_of h hb
theorem cbNext_of {g i k : Int} {fs : List SFr} {m : SMem} {A : SV → SMem → Prop} (h : cbNext off n ds ty t g i k fs m)
    (hc : ∀ best nn, cInv ds off n t g best i nn (k + 1) → Good Tryz.prog A 2 [qFr cTodo off n t best i nn (k + 1), lFr2 lTodo2 g] (m0 ds ty))
    (hb : ∀ best, bInv ds off n t g best (i + 1) → Good Tryz.prog A 2 [rFr bTodo off n t best (i + 1), lFr2 lTodo2 g] (m0 ds ty)) : Good Tryz.prog A 2 fs m := by
  unfold cbNext at h
  split at h
  · exact cNext_of h hc
  · exact bNext_of h hb

/-! Of windows. -/
theorem Free.nil (s : Nat) : Free ds off t s s := fun j h1 h2 => by omega
theorem Free.sub {s e s' e' : Nat} (h : Free ds off t s e) (h1 : s ≤ s') (h2 : e' ≤ e) : Free ds off t s' e' := fun j h3 h4 => h j (by omega) (by omega)
theorem Free.snoc {s e : Nat} (h : Free ds off t s e) (h1 : el ds off e ≠ t) : Free ds off t s (e + 1) := fun j h3 h4 => by
  by_cases e1 : j = e
  · rw [e1]; exact h1
  · exact h j h3 (by omega)
theorem aInv_start (hn : n ≤ 300) : aInv ds off n t 0 0 0 :=
  ⟨0, 0, 0, rfl, rfl, rfl, Nat.zero_le _, hn, Nat.le_refl _, Nat.le_refl _, Free.nil _, .inl rfl, fun s e h1 h2 _ => by omega, 0, 0, Nat.le_refl _, Nat.le_refl _, Free.nil _, rfl⟩
theorem aInv_hit {most nn : Int} {i : Nat} (h : aInv ds off n t most nn i) (hi : i < n) (ht : el ds off i = t) : aInv ds off n t (if (0 : Int) > most then 0 else most) 0 ((i : Int) + 1) := by
  obtain ⟨i', m', n', e1, rfl, rfl, h1, h2, h3, h3', h4, h5, h6, s, e, h7, h8, h9, h10⟩ := h
  obtain rfl : i = i' := by omega
  refine ⟨i + 1, m', 0, by omega, ?_, rfl, by omega, h2, by omega, by omega, Free.nil _, .inr (by simpa using ht), fun s e k1 k2 k3 => ?_, s, e, h7, by omega, h9, h10⟩
  · rw [if_neg (by omega)]
  · by_cases he : e ≤ i
    · exact h6 s e k1 he k3
    · by_cases hs : s = e
      · omega
      · exact absurd ht (k3 i (by omega) (by omega))
theorem aInv_miss {most nn : Int} {i : Nat} (h : aInv ds off n t most nn i) (hi : i < n) (ht : el ds off i ≠ t) : aInv ds off n t (if nn + 1 > most then nn + 1 else most) (nn + 1) ((i : Int) + 1) := by
  obtain ⟨i', m', n', e1, rfl, rfl, h1, h2, h3, h3', h4, h5, h6, s, e, h7, h8, h9, h10⟩ := h
  obtain rfl : i = i' := by omega
  refine ⟨i + 1, if n' + 1 > m' then n' + 1 else m', n' + 1, by omega, ?_, by omega, by omega, h2, by omega, ?_, ?_, ?_, fun s e k1 k2 k3 => ?_, ?_⟩
  · split <;> split <;> omega
  · split <;> omega
  · have e2 : i + 1 - (n' + 1) = i - n' := by omega
    rw [e2]
    exact h4.snoc ht
  · rcases h5 with h5 | h5
    · exact .inl (by omega)
    · refine .inr ?_
      have e2 : i + 1 - (n' + 1) - 1 = i - n' - 1 := by omega
      rw [e2]; exact h5
  · by_cases he : e ≤ i
    · have := h6 s e k1 he k3
      split <;> omega
    · have hs : i - n' ≤ s ∨ s = e := by
        by_cases hs : i - n' ≤ s
        · exact .inl hs
        · rcases h5 with h5 | h5
          · omega
          · exact absurd h5 (k3 (i - n' - 1) (by omega) (by omega))
      split <;> omega
  · by_cases hc : n' + 1 > m'
    · rw [if_pos hc]
      exact ⟨i - n', i + 1, by omega, by omega, h4.snoc ht, by omega⟩
    · rw [if_neg hc]
      exact ⟨s, e, h7, by omega, h9, h10⟩
theorem bInv_start {most nn : Int} (h : aInv ds off n t most nn n) : bInv ds off n t most 0 0 := by
  obtain ⟨i', m', n', e1, rfl, rfl, h1, h2, h3, h3', h4, h5, h6⟩ := h
  obtain rfl : n = i' := by omega
  exact ⟨0, m', 0, rfl, rfl, rfl, Nat.zero_le _, h2, h6, Nat.zero_le _, fun s e k1 => by omega, 0, 0, Nat.le_refl _, Nat.zero_le _, Free.nil _, rfl⟩
theorem bInv_end {g best : Int} (h : bInv ds off n t g best n) : g = best := by
  obtain ⟨i', g', b', e1, rfl, rfl, h1, h2, ⟨h3, s, e, h4, h5, h6, h7⟩, h8, h9, s', e', h10, h11, h12, h13⟩ := h
  obtain rfl : n = i' := by omega
  have k1 := h3 s' e' h10 h11 h12
  have k2 : g' ≤ b' := by
    by_cases hs : s < n
    · rw [← h7]; exact h9 s e hs h4 h5 h6
    · omega
  have : g' = b' := by omega
  rw [this]
theorem cInv_start {g best : Int} {i : Nat} (h : bInv ds off n t g best i) (hi : i < n) : cInv ds off n t g best i 0 i :=
  ⟨h, i, 0, rfl, rfl, by omega, by omega, hi, Free.nil _⟩
theorem cInv_next {g best i nn : Int} {k : Nat} (h : cInv ds off n t g best i nn k) (hk : k < n) (ht : el ds off k ≠ t) : cInv ds off n t g best i (nn + 1) ((k : Int) + 1) := by
  obtain ⟨hb, i', n', rfl, rfl, e1, h1, h2, h3⟩ := h
  obtain rfl : k = i' + n' := by omega
  exact ⟨hb, i', n' + 1, rfl, by omega, by omega, by omega, h2, h3.snoc ht⟩
theorem bInv_next {g best i nn : Int} {k : Nat} (h : cInv ds off n t g best i nn k) (hk : ¬ k < n ∨ el ds off k = t) : bInv ds off n t g (if nn > best then nn else best) (i + 1) := by
  obtain ⟨⟨i2, g', b', e2, rfl, rfl, h4, h5, h6, h6', h7, s, e, h8, h9, h10, h11⟩, i', n', rfl, rfl, e1, h1, h2, h3⟩ := h
  obtain rfl : i2 = i' := by omega
  obtain rfl : k = i2 + n' := by omega
  refine ⟨i2 + 1, g', if n' > b' then n' else b', by omega, rfl, ?_, by omega, h5, h6, ?_, fun s e k1 k2 k3 k4 => ?_, ?_⟩
  · split <;> split <;> omega
  · split <;> omega
  · by_cases hs : s < i2
    · have := h7 s e hs k2 k3 k4
      split <;> omega
    · obtain rfl : s = i2 := by omega
      have : e ≤ s + n' := by
        apply Nat.le_of_not_lt
        intro hlt
        rcases hk with hk | hk
        · omega
        · exact k4 (s + n') (by omega) (by omega) hk
      split <;> omega
  · by_cases hc : n' > b'
    · rw [if_pos hc]
      exact ⟨i2, i2 + n', by omega, h1, h3, by omega⟩
    · rw [if_neg hc]
      exact ⟨s, e, h8, h9, h10, h11⟩
end
end Go.Proofs.YtdnnkmhgnomfgaaGreatDoor
