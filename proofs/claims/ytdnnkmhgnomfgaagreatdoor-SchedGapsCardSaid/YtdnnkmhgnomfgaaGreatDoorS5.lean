/- Of sched: SchedGaps' rounds. No condition. -/
import Derived.Test.YtdnnkmhgnomfgaaGreatDoorS4
namespace Go.Proofs.YtdnnkmhgnomfgaaGreatDoor
set_option maxRecDepth 100000
section
variable {ds : Array Value} {off n : Nat} {ty : TypeId} {t : Int}
theorem toNat_mul_one (k : Nat) : off + Int.toNat (k : Int) * 1 = off + k := by rw [Int.toNat_natCast, Nat.mul_one]
theorem c_round (hP : PicksOk ds off n) {g best nn : Int} {i k : Nat} (hv : cInv ds off n t g best i nn k)
    (hc : k < n → ∀ best nn, cInv ds off n t g best i nn ((k : Int) + 1) → Good Tryz.prog okRet 2 [qFr cTodo off n t best i nn ((k : Int) + 1), lFr2 lTodo2 g] (m0 ds ty))
    (hb : ∀ best, bInv ds off n t g best ((i : Int) + 1) → Good Tryz.prog okRet 2 [rFr bTodo off n t best ((i : Int) + 1), lFr2 lTodo2 g] (m0 ds ty)) :
    Good Tryz.prog okRet 2 [qFr cTodo off n t best i nn k, lFr2 lTodo2 g] (m0 ds ty) := by
  have hv0 := hv
  obtain ⟨⟨i2, g', b', q1, q2, q3, q4, q5, q6, q6', q7⟩, i', n', e1, e2, e3, e4, e5, e6⟩ := hv0
  have hw1 : IntKind.i64.wrap ((k : Int) + 1) = (k : Int) + 1 := i64w (by omega)
  have hw2 : IntKind.i64.wrap (nn + 1) = nn + 1 := i64w (by omega)
  have hw3 : IntKind.i64.wrap ((i : Int) + 1) = (i : Int) + 1 := i64w (by omega)
  refine past_vc ES_ok 1000 (c_step off n ds ty t g best i nn k) ?_ (fun _ _ h => h) (fun fs m h => cbNext_of h (fun best nn hx => hc ?_ best nn hx) hb)
  · have next : (¬ k < n ∨ el ds off k = t) → bInv ds off n t g (if nn > best then nn else best) ((i : Int) + 1) := fun h => bInv_next hv h
    have nT : (¬ k < n ∨ el ds off k = t) → decide (nn > best) = true → bInv ds off n t g nn ((i : Int) + 1) := fun h h2 => by
      have := next h
      rwa [if_pos (of_decide_eq_true h2)] at this
    have nF : (¬ k < n ∨ el ds off k = t) → decide (nn > best) = false → bInv ds off n t g best ((i : Int) + 1) := fun h h2 => by
      have := next h
      rwa [if_neg (of_decide_eq_false h2)] at this
    rw [hw1, hw2, hw3, toNat_mul_one]
    refine ⟨fun h => ?_, fun h => ?_⟩
    · have hk : k < n := by
        have := of_decide_eq_true (eq_of_beq h)
        omega
      refine ⟨⟨⟨by omega, by omega⟩, trivial⟩, ⟨hP k hk, trivial⟩, fun h1 => ?_, fun h1 => ⟨fun h2 => ?_, fun h2 => ?_⟩⟩
      · have ht : el ds off k ≠ t := by simpa [el] using h1
        exact ⟨rfl, rfl, cInv_next hv hk ht, rfl, tk_c, rfl, rfl, rfl, rfl, rfl, rfl, rfl, rfl, tk_2, rfl, rfl, rfl, trivial⟩
      · have ht : el ds off k = t := by simpa [el] using h1
        exact ⟨rfl, rfl, nT (.inr ht) h2, rfl, tk_b, rfl, rfl, rfl, rfl, rfl, rfl, tk_2, rfl, rfl, rfl, trivial⟩
      · have ht : el ds off k = t := by simpa [el] using h1
        exact ⟨rfl, rfl, nF (.inr ht) h2, rfl, tk_b, rfl, rfl, rfl, rfl, rfl, rfl, tk_2, rfl, rfl, rfl, trivial⟩
    · have hk : ¬ k < n := by
        intro hk
        have : decide ((k : Int) < n) = true := decide_eq_true (by omega)
        rw [this] at h
        cases h
      refine ⟨fun h2 => ?_, fun h2 => ?_⟩
      · exact ⟨rfl, rfl, nT (.inl hk) h2, rfl, tk_b, rfl, rfl, rfl, rfl, rfl, rfl, tk_2, rfl, rfl, rfl, trivial⟩
      · exact ⟨rfl, rfl, nF (.inl hk) h2, rfl, tk_b, rfl, rfl, rfl, rfl, rfl, rfl, tk_2, rfl, rfl, rfl, trivial⟩
  · obtain ⟨_, i', n', e1, e2, e3, e4, e5, e6⟩ := hx
    omega
theorem c_loop (hP : PicksOk ds off n) {g : Int} {i : Nat}
    (hb : ∀ best, bInv ds off n t g best ((i : Int) + 1) → Good Tryz.prog okRet 2 [rFr bTodo off n t best ((i : Int) + 1), lFr2 lTodo2 g] (m0 ds ty)) :
    ∀ (r k : Nat), k + r = n → ∀ best nn, cInv ds off n t g best i nn k → Good Tryz.prog okRet 2 [qFr cTodo off n t best i nn k, lFr2 lTodo2 g] (m0 ds ty) := by
  intro r
  induction r with
  | zero => exact fun k hk best nn hv => c_round hP hv (fun h => by omega) hb
  | succ r ih =>
    intro k hk best nn hv
    refine c_round hP hv (fun h best nn hx => ?_) hb
    have := ih (k + 1) (by omega) best nn
    rw [Int.natCast_add] at this
    exact this hx
theorem b_loop (hP : PicksOk ds off n) {g : Int} : ∀ (r i : Nat), i + r = n → ∀ best, bInv ds off n t g best i → Good Tryz.prog okRet 2 [rFr bTodo off n t best i, lFr2 lTodo2 g] (m0 ds ty) := by
  have go : ∀ (i : Nat), (i < n → ∀ best, bInv ds off n t g best ((i : Int) + 1) → Good Tryz.prog okRet 2 [rFr bTodo off n t best ((i : Int) + 1), lFr2 lTodo2 g] (m0 ds ty)) →
      i ≤ n → ∀ best, bInv ds off n t g best i → Good Tryz.prog okRet 2 [rFr bTodo off n t best i, lFr2 lTodo2 g] (m0 ds ty) := by
    intro i hb hin best hv
    by_cases hi : i < n
    · refine past_vc ES_ok 1000 (b_step off n ds ty t g best i) ?_ (fun _ _ h => h) (fun fs m h => cNext_of h fun best nn hx => ?_)
      · refine ⟨fun _ => ⟨rfl, rfl, cInv_start hv hi, rfl, tk_c0, rfl, rfl, rfl, rfl, rfl, rfl, rfl, rfl, tk_2, rfl, rfl, rfl, trivial⟩, fun h => ?_⟩
        have := of_decide_eq_false h
        omega
      · exact Good.head (c_loop hP (hb hi) (n - i) i (by omega) best nn hx)
    · refine past_vc ES_ok 1000 (b_step off n ds ty t g best i) ?_ (fun _ _ h => h) (fun fs m h => cNext_of h fun best nn hx => ?_)
      · refine ⟨fun h => ?_, fun _ => ⟨fun _ => trivial, fun h => ?_⟩⟩
        · have := of_decide_eq_true h
          omega
        · obtain rfl : i = n := by omega
          have e := bInv_end hv
          subst e
          simp at h
      · obtain ⟨_, i', n', e1, e2, e3, e4, e5, e6⟩ := hx
        omega
  intro r
  induction r with
  | zero => exact fun i hi best hv => go i (fun h => by omega) (by omega) best hv
  | succ r ih =>
    intro i hi best hv
    refine go i (fun h best hx => ?_) (by omega) best hv
    have := ih (i + 1) (by omega) best
    rw [Int.natCast_add] at this
    exact this hx
theorem a_loop (hP : PicksOk ds off n) : ∀ (r i : Nat), i + r = n → ∀ most nn, aInv ds off n t most nn i → Good Tryz.prog okRet 2 [gFr aTodo off n t most nn i, lFr1 lTodo1 off n t] (m0 ds ty) := by
  have go : ∀ (i : Nat), (i < n → ∀ most nn, aInv ds off n t most nn ((i : Int) + 1) → Good Tryz.prog okRet 2 [gFr aTodo off n t most nn ((i : Int) + 1), lFr1 lTodo1 off n t] (m0 ds ty)) →
      i ≤ n → ∀ most nn, aInv ds off n t most nn i → Good Tryz.prog okRet 2 [gFr aTodo off n t most nn i, lFr1 lTodo1 off n t] (m0 ds ty) := by
    intro i ha hin most nn hv
    have hv0 := hv
    obtain ⟨i', m', n', e1, e2, e3, h1, h2, h3, h3', h4⟩ := hv0
    have hw1 : IntKind.i64.wrap ((i : Int) + 1) = (i : Int) + 1 := i64w (by omega)
    have hw2 : IntKind.i64.wrap (nn + 1) = nn + 1 := i64w (by omega)
    refine past_vc ES_ok 1000 (a_step off n ds ty t most nn i) ?_ (fun _ _ h => h) (fun fs m h => abNext_of h (fun most nn hx => ha ?_ most nn hx) fun best hx => Good.head (b_loop hP n 0 (by omega) best hx))
    · rw [hw1, hw2, toNat_mul_one]
      refine ⟨fun h => ?_, fun h => ?_⟩
      · have hi : i < n := by have := of_decide_eq_true h; omega
        refine ⟨⟨⟨by omega, by omega⟩, trivial⟩, ⟨hP i hi, trivial⟩, fun h1 => ?_, fun h1 => ?_⟩
        · have ht : el ds off i = t := by simpa [el] using h1
          exact ⟨rfl, aInv_hit hv hi ht, rfl, tk_a, rfl, rfl, rfl, rfl, rfl, rfl, rfl, rfl, rfl, rfl, tk_1, rfl, rfl, rfl, rfl, rfl, trivial⟩
        · have ht : el ds off i ≠ t := by simpa [el] using h1
          exact ⟨rfl, aInv_miss hv hi ht, rfl, tk_a, rfl, rfl, rfl, rfl, rfl, rfl, rfl, rfl, rfl, rfl, tk_1, rfl, rfl, rfl, rfl, rfl, trivial⟩
      · have hi : ¬ i < n := by have := of_decide_eq_false h; omega
        obtain rfl : i = n := by omega
        exact ⟨rfl, rfl, bInv_start hv, rfl, tk_b0, rfl, rfl, rfl, rfl, rfl, rfl, tk_2, rfl, rfl, rfl, trivial⟩
    · obtain ⟨i', m', n', e1, e2, e3, h1, h2⟩ := hx
      omega
  intro r
  induction r with
  | zero => exact fun i hi most nn hv => go i (fun h => by omega) (by omega) most nn hv
  | succ r ih =>
    intro i hi most nn hv
    refine go i (fun h most nn hx => ?_) (by omega) most nn hv
    have := ih (i + 1) (by omega) most nn
    rw [Int.natCast_add] at this
    exact this hx
theorem a_start (hP : n ≤ 300 → PicksOk ds off n) {fs : List SFr} {m : SMem} (h : aNext aTodo0 lTodo1 off n ds ty t 0 fs m) : Good Tryz.prog okRet 2 fs m := by
  refine aNext_of h fun most nn hx => ?_
  have hn : n ≤ 300 := by obtain ⟨_, _, _, _, _, _, _, h, _⟩ := hx; exact h
  exact Good.head (a_loop (hP hn) n 0 (by omega) most nn hx)
variable {k s e la si : Int} {es : Array Value} {ty2 : TypeId} {o2 n2 : Nat}
theorem gaps_nil (hP : n ≤ 300 → PicksOk ds off n) : Good Tryz.prog okRet 2 [callFr 6 Tryz.f6.ntmps [picksS off n, u8S t, polS k nilO s e la si] (Tryz.f6.body.getD .skip)] (m0 ds ty) := by
  refine run_vc ES_ok 1000 (s_nil off n ds ty t k s e la si) ?_ (fun _ _ h => h) (fun fs m hb => a_start hP hb)
  refine ⟨fun _ => trivial, fun h => ?_⟩
  have hn : n ≤ 300 := by have := of_decide_eq_false h; omega
  exact ⟨rfl, aInv_start hn, rfl, tk_a0, rfl, rfl, rfl, rfl, rfl, rfl, rfl, rfl, rfl, rfl, tk_1, rfl, rfl, rfl, rfl, rfl, trivial⟩
theorem gaps_em (hP : n ≤ 300 → PicksOk ds off n) : Good Tryz.prog okRet 2 [callFr 6 Tryz.f6.ntmps [picksS off n, u8S t, polS k (emO o2) s e la si] (Tryz.f6.body.getD .skip)] (m1 ds ty es ty2) := by
  refine run_vc ES_ok 1000 (s_em off n o2 ds es ty ty2 t k s e la si) ?_ (fun _ _ h => h) (fun fs m hb => a_start hP hb)
  refine ⟨fun _ => trivial, fun h => ?_⟩
  have hn : n ≤ 300 := by have := of_decide_eq_false h; omega
  exact ⟨rfl, aInv_start hn, rfl, tk_a0, rfl, rfl, rfl, rfl, rfl, rfl, rfl, rfl, rfl, rfl, tk_1, rfl, rfl, rfl, rfl, rfl, trivial⟩
theorem gaps_so (hP : n ≤ 300 → PicksOk ds off n) (h1 : o2 + n2 ≤ es.size) (h2 : ∀ v : Value, v ∈ (es.extract o2 (o2 + n2)).toList → v.oneCell' = true) (h3 : n2 ≤ 140737488355328) :
    Good Tryz.prog okRet 2 [callFr 6 Tryz.f6.ntmps [picksS off n, u8S t, polS k (soO o2 n2) s e la si] (Tryz.f6.body.getD .skip)] (m1 ds ty es ty2) := by
  refine run_vc ES_ok 1000 (s_so off n o2 n2 ds es ty ty2 t k s e la si) ?_ (fun _ _ h => h) (fun fs m hb => a_start hP hb)
  refine ⟨fun _ => trivial, fun h => ?_⟩
  have hn : n ≤ 300 := by have := of_decide_eq_false h; omega
  rw [Nat.mul_one]
  exact ⟨⟨h1, h2, ⟨by omega, by omega⟩, trivial⟩, rfl, aInv_start hn, rfl, tk_a0, rfl, rfl, rfl, rfl, rfl, rfl, rfl, rfl, rfl, rfl, tk_1, rfl, rfl, rfl, rfl, rfl, trivial⟩
end
end Go.Proofs.YtdnnkmhgnomfgaaGreatDoor
