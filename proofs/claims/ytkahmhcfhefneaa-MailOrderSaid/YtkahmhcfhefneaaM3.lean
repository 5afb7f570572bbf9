/- Of mail: MailOrder, behind any acts. No condition. -/
import Derived.Test.YtkahmhcfhefneaaM2
import Derived.IntWalk
namespace Go.Proofs.Ytkahmhcfhefneaa
theorem i64w {x : Int} (h : -9223372036854775808 ≤ x ∧ x ≤ 9223372036854775807) : IntKind.i64.wrap x = x := Go.IntWalk.i64_in x h
theorem u64w {x : Int} (h : 0 ≤ x ∧ x ≤ 18446744073709551615) : IntKind.u64.wrap x = x := Go.IntWalk.u64_in x h
theorem oNext_of {td : List SIt} {off n : Nat} {ds : Array Value} {ty : TypeId} {nx : Int} {fs : List SFr} {m : SMem} {A : SV → SMem → Prop} (h : oNext td off n ds ty nx fs m)
    (hg : ∀ ms c put taken, oInv n ms put taken nx → Good Try.prog A 1 [oFr td off n c put taken nx] (boxM ds ty ms c)) : Good Try.prog A 1 fs m := by
  unfold oNext at h
  split at h
  case h_2 => exact h.elim
  split at h
  case h_2 => exact h.elim
  split at h
  case h_2 => exact h.elim
  split at h
  case h_2 => exact h.elim
  obtain ⟨rfl, rfl, h1, h2⟩ := h
  exact Good.of_sub h2 (hg _ _ _ _ h1)
theorem o_tk : TodoOk (ren 1 [(1, 1)]) oTodo oTodo := TodoOk.same (by kernel_rfl)
theorem o_tk0 : TodoOk (ren 1 [(1, 1)]) oTodo0 oTodo0 := TodoOk.same (by kernel_rfl)
section
variable {ds : Array Value} {off n : Nat} {ty : TypeId}
theorem o_r0f {put taken : Int} {i : Nat} (hn : n ≤ 200) (hA : i < n → ActIs ds (off + i * 5)) (hv : oInv n [] put taken i)
    (ih : i < n → ∀ ms c put taken, oInv n ms put taken (i + 1) → Good Try.prog okRet 1 [oFr oTodo off n c put taken (i + 1)] (boxM ds ty ms c)) : Good Try.prog okRet 1 [oFr oTodo off n false put taken i] (boxM ds ty [] false) := by
  simp only [oInv, wordsOk, len] at hv
  have hj : (i : Int).toNat = i := Int.toNat_natCast i
  by_cases hi : i < n
  · have hA := hA hi
    refine past_vc EL_ok 1000 (o_step0f off n ds ty  put taken i) ?_ (fun _ _ h => h) (fun fs m hb => oNext_of hb (ih hi))
    have b0 := hA.a0; have b1 := hA.a1; have b2 := hA.a2; have b3 := hA.a3; have b4 := hA.a4
    clear hA ih
    have e1 : decide (taken < put) = false := by exact decide_eq_false (by omega)
    have e2 : decide (put - taken < 4) = true := by exact decide_eq_true (by omega)
    simp (disch := omega) only [hj, e1, e2, i64w, u64w, oInv, wordsOk, len, bne_iff_ne, beq_iff_eq, decide_eq_true_eq, decide_eq_false_iff_not, bne_eq_false_iff_eq, beq_eq_false_iff_ne, o_tk]
    repeat' first
      | exact trivial
      | apply And.intro
      | intro _
      | exact rfl
      | exact b0 _ (by omega)
      | exact b1 _ (by omega)
      | exact b2 _ (by omega)
      | exact b3 _ (by omega)
      | exact b4 _ (by omega)
      | omega
      | contradiction
  · refine past_vc EL_ok 1000 (o_step0f off n ds ty  put taken i) ?_ (fun _ _ h => h) (fun fs m hb => oNext_of (nx := i + 1) hb fun _ _ _ _ h => absurd h.2.2.2.2.2.2.1 (by omega))
    have e0 : decide ((i : Int) < n) = false := decide_eq_false (by omega)
    rw [e0]
    exact ⟨fun h => (by cases h), fun _ => trivial⟩
theorem o_r0t {put taken : Int} {i : Nat} (hn : n ≤ 200) (hA : i < n → ActIs ds (off + i * 5)) (hv : oInv n [] put taken i)
    (ih : i < n → ∀ ms c put taken, oInv n ms put taken (i + 1) → Good Try.prog okRet 1 [oFr oTodo off n c put taken (i + 1)] (boxM ds ty ms c)) : Good Try.prog okRet 1 [oFr oTodo off n true put taken i] (boxM ds ty [] true) := by
  simp only [oInv, wordsOk, len] at hv
  have hj : (i : Int).toNat = i := Int.toNat_natCast i
  by_cases hi : i < n
  · have hA := hA hi
    refine past_vc EL_ok 1000 (o_step0t off n ds ty  put taken i) ?_ (fun _ _ h => h) (fun fs m hb => oNext_of hb (ih hi))
    have b0 := hA.a0; have b1 := hA.a1; have b2 := hA.a2; have b3 := hA.a3; have b4 := hA.a4
    clear hA ih
    have e1 : decide (taken < put) = false := by exact decide_eq_false (by omega)
    
    simp (disch := omega) only [hj, e1, i64w, u64w, oInv, wordsOk, len, bne_iff_ne, beq_iff_eq, decide_eq_true_eq, decide_eq_false_iff_not, bne_eq_false_iff_eq, beq_eq_false_iff_ne, o_tk]
    repeat' first
      | exact trivial
      | apply And.intro
      | intro _
      | exact rfl
      | exact b0 _ (by omega)
      | exact b1 _ (by omega)
      | exact b2 _ (by omega)
      | exact b3 _ (by omega)
      | exact b4 _ (by omega)
      | omega
      | contradiction
  · refine past_vc EL_ok 1000 (o_step0t off n ds ty  put taken i) ?_ (fun _ _ h => h) (fun fs m hb => oNext_of (nx := i + 1) hb fun _ _ _ _ h => absurd h.2.2.2.2.2.2.1 (by omega))
    have e0 : decide ((i : Int) < n) = false := decide_eq_false (by omega)
    rw [e0]
    exact ⟨fun h => (by cases h), fun _ => trivial⟩
theorem o_r1f {m0 : Msg} {put taken : Int} {i : Nat} (hn : n ≤ 200) (hA : i < n → ActIs ds (off + i * 5)) (hv : oInv n [m0] put taken i)
    (ih : i < n → ∀ ms c put taken, oInv n ms put taken (i + 1) → Good Try.prog okRet 1 [oFr oTodo off n c put taken (i + 1)] (boxM ds ty ms c)) : Good Try.prog okRet 1 [oFr oTodo off n false put taken i] (boxM ds ty [m0] false) := by
  simp only [oInv, wordsOk, len] at hv
  have hj : (i : Int).toNat = i := Int.toNat_natCast i
  by_cases hi : i < n
  · have hA := hA hi
    refine past_vc EL_ok 1000 (o_step1f off n ds ty m0 put taken i) ?_ (fun _ _ h => h) (fun fs m hb => oNext_of hb (ih hi))
    have b0 := hA.a0; have b1 := hA.a1; have b2 := hA.a2; have b3 := hA.a3; have b4 := hA.a4
    clear hA ih
    have e1 : decide (taken < put) = true := by exact decide_eq_true (by omega)
    have e2 : decide (put - taken < 4) = true := by exact decide_eq_true (by omega)
    simp (disch := omega) only [hj, e1, e2, i64w, u64w, oInv, wordsOk, len, bne_iff_ne, beq_iff_eq, decide_eq_true_eq, decide_eq_false_iff_not, bne_eq_false_iff_eq, beq_eq_false_iff_ne, o_tk]
    repeat' first
      | exact trivial
      | apply And.intro
      | intro _
      | exact rfl
      | exact b0 _ (by omega)
      | exact b1 _ (by omega)
      | exact b2 _ (by omega)
      | exact b3 _ (by omega)
      | exact b4 _ (by omega)
      | omega
      | contradiction
  · refine past_vc EL_ok 1000 (o_step1f off n ds ty m0 put taken i) ?_ (fun _ _ h => h) (fun fs m hb => oNext_of (nx := i + 1) hb fun _ _ _ _ h => absurd h.2.2.2.2.2.2.1 (by omega))
    have e0 : decide ((i : Int) < n) = false := decide_eq_false (by omega)
    rw [e0]
    exact ⟨fun h => (by cases h), fun _ => trivial⟩
theorem o_r1t {m0 : Msg} {put taken : Int} {i : Nat} (hn : n ≤ 200) (hA : i < n → ActIs ds (off + i * 5)) (hv : oInv n [m0] put taken i)
    (ih : i < n → ∀ ms c put taken, oInv n ms put taken (i + 1) → Good Try.prog okRet 1 [oFr oTodo off n c put taken (i + 1)] (boxM ds ty ms c)) : Good Try.prog okRet 1 [oFr oTodo off n true put taken i] (boxM ds ty [m0] true) := by
  simp only [oInv, wordsOk, len] at hv
  have hj : (i : Int).toNat = i := Int.toNat_natCast i
  by_cases hi : i < n
  · have hA := hA hi
    refine past_vc EL_ok 1000 (o_step1t off n ds ty m0 put taken i) ?_ (fun _ _ h => h) (fun fs m hb => oNext_of hb (ih hi))
    have b0 := hA.a0; have b1 := hA.a1; have b2 := hA.a2; have b3 := hA.a3; have b4 := hA.a4
    clear hA ih
    have e1 : decide (taken < put) = true := by exact decide_eq_true (by omega)
    
    simp (disch := omega) only [hj, e1, i64w, u64w, oInv, wordsOk, len, bne_iff_ne, beq_iff_eq, decide_eq_true_eq, decide_eq_false_iff_not, bne_eq_false_iff_eq, beq_eq_false_iff_ne, o_tk]
    repeat' first
      | exact trivial
      | apply And.intro
      | intro _
      | exact rfl
      | exact b0 _ (by omega)
      | exact b1 _ (by omega)
      | exact b2 _ (by omega)
      | exact b3 _ (by omega)
      | exact b4 _ (by omega)
      | omega
      | contradiction
  · refine past_vc EL_ok 1000 (o_step1t off n ds ty m0 put taken i) ?_ (fun _ _ h => h) (fun fs m hb => oNext_of (nx := i + 1) hb fun _ _ _ _ h => absurd h.2.2.2.2.2.2.1 (by omega))
    have e0 : decide ((i : Int) < n) = false := decide_eq_false (by omega)
    rw [e0]
    exact ⟨fun h => (by cases h), fun _ => trivial⟩
theorem o_r2f {m0 m1 : Msg} {put taken : Int} {i : Nat} (hn : n ≤ 200) (hA : i < n → ActIs ds (off + i * 5)) (hv : oInv n [m0, m1] put taken i)
    (ih : i < n → ∀ ms c put taken, oInv n ms put taken (i + 1) → Good Try.prog okRet 1 [oFr oTodo off n c put taken (i + 1)] (boxM ds ty ms c)) : Good Try.prog okRet 1 [oFr oTodo off n false put taken i] (boxM ds ty [m0, m1] false) := by
  simp only [oInv, wordsOk, len] at hv
  have hj : (i : Int).toNat = i := Int.toNat_natCast i
  by_cases hi : i < n
  · have hA := hA hi
    refine past_vc EL_ok 1000 (o_step2f off n ds ty m0 m1 put taken i) ?_ (fun _ _ h => h) (fun fs m hb => oNext_of hb (ih hi))
    have b0 := hA.a0; have b1 := hA.a1; have b2 := hA.a2; have b3 := hA.a3; have b4 := hA.a4
    clear hA ih
    have e1 : decide (taken < put) = true := by exact decide_eq_true (by omega)
    have e2 : decide (put - taken < 4) = true := by exact decide_eq_true (by omega)
    simp (disch := omega) only [hj, e1, e2, i64w, u64w, oInv, wordsOk, len, bne_iff_ne, beq_iff_eq, decide_eq_true_eq, decide_eq_false_iff_not, bne_eq_false_iff_eq, beq_eq_false_iff_ne, o_tk]
    repeat' first
      | exact trivial
      | apply And.intro
      | intro _
      | exact rfl
      | exact b0 _ (by omega)
      | exact b1 _ (by omega)
      | exact b2 _ (by omega)
      | exact b3 _ (by omega)
      | exact b4 _ (by omega)
      | omega
      | contradiction
  · refine past_vc EL_ok 1000 (o_step2f off n ds ty m0 m1 put taken i) ?_ (fun _ _ h => h) (fun fs m hb => oNext_of (nx := i + 1) hb fun _ _ _ _ h => absurd h.2.2.2.2.2.2.1 (by omega))
    have e0 : decide ((i : Int) < n) = false := decide_eq_false (by omega)
    rw [e0]
    exact ⟨fun h => (by cases h), fun _ => trivial⟩
theorem o_r2t {m0 m1 : Msg} {put taken : Int} {i : Nat} (hn : n ≤ 200) (hA : i < n → ActIs ds (off + i * 5)) (hv : oInv n [m0, m1] put taken i)
    (ih : i < n → ∀ ms c put taken, oInv n ms put taken (i + 1) → Good Try.prog okRet 1 [oFr oTodo off n c put taken (i + 1)] (boxM ds ty ms c)) : Good Try.prog okRet 1 [oFr oTodo off n true put taken i] (boxM ds ty [m0, m1] true) := by
  simp only [oInv, wordsOk, len] at hv
  have hj : (i : Int).toNat = i := Int.toNat_natCast i
  by_cases hi : i < n
  · have hA := hA hi
    refine past_vc EL_ok 1000 (o_step2t off n ds ty m0 m1 put taken i) ?_ (fun _ _ h => h) (fun fs m hb => oNext_of hb (ih hi))
    have b0 := hA.a0; have b1 := hA.a1; have b2 := hA.a2; have b3 := hA.a3; have b4 := hA.a4
    clear hA ih
    have e1 : decide (taken < put) = true := by exact decide_eq_true (by omega)
    
    simp (disch := omega) only [hj, e1, i64w, u64w, oInv, wordsOk, len, bne_iff_ne, beq_iff_eq, decide_eq_true_eq, decide_eq_false_iff_not, bne_eq_false_iff_eq, beq_eq_false_iff_ne, o_tk]
    repeat' first
      | exact trivial
      | apply And.intro
      | intro _
      | exact rfl
      | exact b0 _ (by omega)
      | exact b1 _ (by omega)
      | exact b2 _ (by omega)
      | exact b3 _ (by omega)
      | exact b4 _ (by omega)
      | omega
      | contradiction
  · refine past_vc EL_ok 1000 (o_step2t off n ds ty m0 m1 put taken i) ?_ (fun _ _ h => h) (fun fs m hb => oNext_of (nx := i + 1) hb fun _ _ _ _ h => absurd h.2.2.2.2.2.2.1 (by omega))
    have e0 : decide ((i : Int) < n) = false := decide_eq_false (by omega)
    rw [e0]
    exact ⟨fun h => (by cases h), fun _ => trivial⟩
theorem o_r3f {m0 m1 m2 : Msg} {put taken : Int} {i : Nat} (hn : n ≤ 200) (hA : i < n → ActIs ds (off + i * 5)) (hv : oInv n [m0, m1, m2] put taken i)
    (ih : i < n → ∀ ms c put taken, oInv n ms put taken (i + 1) → Good Try.prog okRet 1 [oFr oTodo off n c put taken (i + 1)] (boxM ds ty ms c)) : Good Try.prog okRet 1 [oFr oTodo off n false put taken i] (boxM ds ty [m0, m1, m2] false) := by
  simp only [oInv, wordsOk, len] at hv
  have hj : (i : Int).toNat = i := Int.toNat_natCast i
  by_cases hi : i < n
  · have hA := hA hi
    refine past_vc EL_ok 1000 (o_step3f off n ds ty m0 m1 m2 put taken i) ?_ (fun _ _ h => h) (fun fs m hb => oNext_of hb (ih hi))
    have b0 := hA.a0; have b1 := hA.a1; have b2 := hA.a2; have b3 := hA.a3; have b4 := hA.a4
    clear hA ih
    have e1 : decide (taken < put) = true := by exact decide_eq_true (by omega)
    have e2 : decide (put - taken < 4) = true := by exact decide_eq_true (by omega)
    simp (disch := omega) only [hj, e1, e2, i64w, u64w, oInv, wordsOk, len, bne_iff_ne, beq_iff_eq, decide_eq_true_eq, decide_eq_false_iff_not, bne_eq_false_iff_eq, beq_eq_false_iff_ne, o_tk]
    repeat' first
      | exact trivial
      | apply And.intro
      | intro _
      | exact rfl
      | exact b0 _ (by omega)
      | exact b1 _ (by omega)
      | exact b2 _ (by omega)
      | exact b3 _ (by omega)
      | exact b4 _ (by omega)
      | omega
      | contradiction
  · refine past_vc EL_ok 1000 (o_step3f off n ds ty m0 m1 m2 put taken i) ?_ (fun _ _ h => h) (fun fs m hb => oNext_of (nx := i + 1) hb fun _ _ _ _ h => absurd h.2.2.2.2.2.2.1 (by omega))
    have e0 : decide ((i : Int) < n) = false := decide_eq_false (by omega)
    rw [e0]
    exact ⟨fun h => (by cases h), fun _ => trivial⟩
theorem o_r3t {m0 m1 m2 : Msg} {put taken : Int} {i : Nat} (hn : n ≤ 200) (hA : i < n → ActIs ds (off + i * 5)) (hv : oInv n [m0, m1, m2] put taken i)
    (ih : i < n → ∀ ms c put taken, oInv n ms put taken (i + 1) → Good Try.prog okRet 1 [oFr oTodo off n c put taken (i + 1)] (boxM ds ty ms c)) : Good Try.prog okRet 1 [oFr oTodo off n true put taken i] (boxM ds ty [m0, m1, m2] true) := by
  simp only [oInv, wordsOk, len] at hv
  have hj : (i : Int).toNat = i := Int.toNat_natCast i
  by_cases hi : i < n
  · have hA := hA hi
    refine past_vc EL_ok 1000 (o_step3t off n ds ty m0 m1 m2 put taken i) ?_ (fun _ _ h => h) (fun fs m hb => oNext_of hb (ih hi))
    have b0 := hA.a0; have b1 := hA.a1; have b2 := hA.a2; have b3 := hA.a3; have b4 := hA.a4
    clear hA ih
    have e1 : decide (taken < put) = true := by exact decide_eq_true (by omega)
    
    simp (disch := omega) only [hj, e1, i64w, u64w, oInv, wordsOk, len, bne_iff_ne, beq_iff_eq, decide_eq_true_eq, decide_eq_false_iff_not, bne_eq_false_iff_eq, beq_eq_false_iff_ne, o_tk]
    repeat' first
      | exact trivial
      | apply And.intro
      | intro _
      | exact rfl
      | exact b0 _ (by omega)
      | exact b1 _ (by omega)
      | exact b2 _ (by omega)
      | exact b3 _ (by omega)
      | exact b4 _ (by omega)
      | omega
      | contradiction
  · refine past_vc EL_ok 1000 (o_step3t off n ds ty m0 m1 m2 put taken i) ?_ (fun _ _ h => h) (fun fs m hb => oNext_of (nx := i + 1) hb fun _ _ _ _ h => absurd h.2.2.2.2.2.2.1 (by omega))
    have e0 : decide ((i : Int) < n) = false := decide_eq_false (by omega)
    rw [e0]
    exact ⟨fun h => (by cases h), fun _ => trivial⟩
theorem o_r4f {m0 m1 m2 m3 : Msg} {put taken : Int} {i : Nat} (hn : n ≤ 200) (hA : i < n → ActIs ds (off + i * 5)) (hv : oInv n [m0, m1, m2, m3] put taken i)
    (ih : i < n → ∀ ms c put taken, oInv n ms put taken (i + 1) → Good Try.prog okRet 1 [oFr oTodo off n c put taken (i + 1)] (boxM ds ty ms c)) : Good Try.prog okRet 1 [oFr oTodo off n false put taken i] (boxM ds ty [m0, m1, m2, m3] false) := by
  simp only [oInv, wordsOk, len] at hv
  have hj : (i : Int).toNat = i := Int.toNat_natCast i
  by_cases hi : i < n
  · have hA := hA hi
    refine past_vc EL_ok 1000 (o_step4f off n ds ty m0 m1 m2 m3 put taken i) ?_ (fun _ _ h => h) (fun fs m hb => oNext_of hb (ih hi))
    have b0 := hA.a0; have b1 := hA.a1; have b2 := hA.a2; have b3 := hA.a3; have b4 := hA.a4
    clear hA ih
    have e1 : decide (taken < put) = true := by exact decide_eq_true (by omega)
    have e2 : decide (put - taken < 4) = false := by exact decide_eq_false (by omega)
    simp (disch := omega) only [hj, e1, e2, i64w, u64w, oInv, wordsOk, len, bne_iff_ne, beq_iff_eq, decide_eq_true_eq, decide_eq_false_iff_not, bne_eq_false_iff_eq, beq_eq_false_iff_ne, o_tk]
    repeat' first
      | exact trivial
      | apply And.intro
      | intro _
      | exact rfl
      | exact b0 _ (by omega)
      | exact b1 _ (by omega)
      | exact b2 _ (by omega)
      | exact b3 _ (by omega)
      | exact b4 _ (by omega)
      | omega
      | contradiction
  · refine past_vc EL_ok 1000 (o_step4f off n ds ty m0 m1 m2 m3 put taken i) ?_ (fun _ _ h => h) (fun fs m hb => oNext_of (nx := i + 1) hb fun _ _ _ _ h => absurd h.2.2.2.2.2.2.1 (by omega))
    have e0 : decide ((i : Int) < n) = false := decide_eq_false (by omega)
    rw [e0]
    exact ⟨fun h => (by cases h), fun _ => trivial⟩
theorem o_r4t {m0 m1 m2 m3 : Msg} {put taken : Int} {i : Nat} (hn : n ≤ 200) (hA : i < n → ActIs ds (off + i * 5)) (hv : oInv n [m0, m1, m2, m3] put taken i)
    (ih : i < n → ∀ ms c put taken, oInv n ms put taken (i + 1) → Good Try.prog okRet 1 [oFr oTodo off n c put taken (i + 1)] (boxM ds ty ms c)) : Good Try.prog okRet 1 [oFr oTodo off n true put taken i] (boxM ds ty [m0, m1, m2, m3] true) := by
  simp only [oInv, wordsOk, len] at hv
  have hj : (i : Int).toNat = i := Int.toNat_natCast i
  by_cases hi : i < n
  · have hA := hA hi
    refine past_vc EL_ok 1000 (o_step4t off n ds ty m0 m1 m2 m3 put taken i) ?_ (fun _ _ h => h) (fun fs m hb => oNext_of hb (ih hi))
    have b0 := hA.a0; have b1 := hA.a1; have b2 := hA.a2; have b3 := hA.a3; have b4 := hA.a4
    clear hA ih
    have e1 : decide (taken < put) = true := by exact decide_eq_true (by omega)
    
    simp (disch := omega) only [hj, e1, i64w, u64w, oInv, wordsOk, len, bne_iff_ne, beq_iff_eq, decide_eq_true_eq, decide_eq_false_iff_not, bne_eq_false_iff_eq, beq_eq_false_iff_ne, o_tk]
    repeat' first
      | exact trivial
      | apply And.intro
      | intro _
      | exact rfl
      | exact b0 _ (by omega)
      | exact b1 _ (by omega)
      | exact b2 _ (by omega)
      | exact b3 _ (by omega)
      | exact b4 _ (by omega)
      | omega
      | contradiction
  · refine past_vc EL_ok 1000 (o_step4t off n ds ty m0 m1 m2 m3 put taken i) ?_ (fun _ _ h => h) (fun fs m hb => oNext_of (nx := i + 1) hb fun _ _ _ _ h => absurd h.2.2.2.2.2.2.1 (by omega))
    have e0 : decide ((i : Int) < n) = false := decide_eq_false (by omega)
    rw [e0]
    exact ⟨fun h => (by cases h), fun _ => trivial⟩
/-- Behind all rounds. -/
theorem o_loop (hn : n ≤ 200) (hA : ActsOk ds off n) : ∀ (r i : Nat), i + r = n → ∀ ms c put taken, oInv n ms put taken i → Good Try.prog okRet 1 [oFr oTodo off n c put taken i] (boxM ds ty ms c) := by
  have go : ∀ i : Nat, (i < n → ∀ ms c put taken, oInv n ms put taken ((i : Int) + 1) → Good Try.prog okRet 1 [oFr oTodo off n c put taken ((i : Int) + 1)] (boxM ds ty ms c)) → ∀ ms c put taken, oInv n ms put taken i → Good Try.prog okRet 1 [oFr oTodo off n c put taken i] (boxM ds ty ms c) := by
    intro i ih ms c put taken hv
    have hAi : i < n → ActIs ds (off + i * 5) := hA i
    match ms, c with
    | [], false => exact o_r0f hn hAi hv ih
    | [], true => exact o_r0t hn hAi hv ih
    | [_], false => exact o_r1f hn hAi hv ih
    | [_], true => exact o_r1t hn hAi hv ih
    | [_, _], false => exact o_r2f hn hAi hv ih
    | [_, _], true => exact o_r2t hn hAi hv ih
    | [_, _, _], false => exact o_r3f hn hAi hv ih
    | [_, _, _], true => exact o_r3t hn hAi hv ih
    | [_, _, _, _], false => exact o_r4f hn hAi hv ih
    | [_, _, _, _], true => exact o_r4t hn hAi hv ih
    | _ :: _ :: _ :: _ :: _ :: r, _ =>
      have h := hv.1
      simp only [len] at h
      omega
  intro r
  induction r with
  | zero => exact fun i hi => go i fun h => by omega
  | succ r ih =>
    intro i hi
    refine go i fun h ms c put taken hv => ?_
    have := ih (i + 1) (by omega) ms c put taken
    rw [Int.natCast_add] at this
    exact this hv
/-- The law, of acts that may be read. -/
theorem order_good (hA : n ≤ 200 → ActsOk ds off n) : Good Try.prog okRet 1 [callFr 4 Try.f4.ntmps [actsS off n] (Try.f4.body.getD .skip)] (oneD ds ty) := by
  refine run_vc EL_ok 1000 (o_start off n ds ty) ?_ (fun _ _ h => h) (fun fs m hb => oNext_of hb fun ms c put taken hv => Good.head ?_)
  · refine ⟨fun _ => trivial, fun h => ?_⟩
    have h := of_decide_eq_false h
    refine ⟨rfl, rfl, ?_, rfl, o_tk0, rfl, rfl, rfl, rfl, rfl, rfl, rfl, rfl, trivial⟩
    simp only [oInv, wordsOk, len]
    exact ⟨by omega, trivial, rfl, by omega, by omega, by omega, by omega, by omega⟩
  · have h : n ≤ 200 := by have := hv.2.2.2.2.2.2.2; omega
    exact o_loop h (hA h) n 0 (by omega) ms c put taken hv
end
end Go.Proofs.Ytkahmhcfhefneaa
