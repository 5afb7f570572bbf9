/- Of flow: FlowRuns: its rounds, with results. No condition. -/
import Derived.Test.YtpohnmafnpnmeaaI5
import Derived.Test.YtpohnmafnpnmeaaMC
import Derived.Test.YtpohnmafnpnmeaaMB
import Derived.Test.YtpohnmafnpnmeaaRows
import Derived.Test.YtpohnmafnpnmeaaE1
import Derived.ProofKit
import Derived.OpenShut
import Derived.ChangeSame
import Derived.Deep.Slices
import Derived.Deep.Fields
import Derived.ChangeMaps5
set_option linter.unusedVariables false
set_option linter.unusedSimpArgs false
namespace Go.Proofs.Ytpohnmafnpnmeaa
set_option linter.unusedSectionVars false
set_option maxRecDepth 100000
theorem Ep0_ok : EnvOk Ep0 := EnvOk.with E0_ok _ _ (conRun_ok 0)
theorem Ep2_ok : EnvOk Ep2 := EnvOk.with E0_ok _ _ (conRun_ok 2)
theorem Ep3_ok : EnvOk Ep3 := EnvOk.with E0_ok _ _ (conRun_ok 3)
theorem Ep4_ok : EnvOk Ep4 := EnvOk.with E0_ok _ _ (conRun_ok 4)
theorem Ep5_ok : EnvOk Ep5 := EnvOk.with E0_ok _ _ (conRun_ok 5)
theorem Ep6_ok : EnvOk Ep6 := EnvOk.with E0_ok _ _ (conRun_ok 6)
theorem Ep7_ok : EnvOk Ep7 := EnvOk.with E0_ok _ _ (conRun_ok 7)
theorem Ep8_ok : EnvOk Ep8 := EnvOk.with E0_ok _ _ (conRun_ok 8)
def RsOk (rc : Array Value) (ro rn : Nat) : Prop := ∀ j, j < rn → IsInt .i64 rc (ro + j * 3) ∧ IsInt .u64 rc (ro + j * 3 + 1) ∧ IsInt .u32 rc (ro + j * 3 + 2)
section
variable (off num : Nat) (cs : Array Value) (ty : TypeId) (ro rn : Nat) (rc : Array Value) (rt : TypeId) (hI : InsOk cs off num) (hM : mayV cs off num = true) (hr : RsOk rc ro rn) (hr0 : rn ≠ 0) (hr1 : rn ≤ 60)
include hI hM hr hr0 hr1
theorem wp_go {i x y : Nat} (hx : x < num) (hy : y ∈ toL cs off num x) (hyn : y ≤ num) (hmy : metB cs off num y = true) (hi : i < 300) (g0 g1 g2 g3 g4 g5 g6 g7 : Int) (H : Good Try.prog (boolR true) 2 (qp_F off num cs ty ro rn rc rt (lnV cs off num) (lnE cs off num) (i + 1 : Nat) (i + 1 : Nat) (num + 1) num y g0 g1 g2 g3 g4 g5 g6 g7 (cod cs off num) (boL (metB cs off num) (num + 1))) (qp_M off num cs ty ro rn rc rt (lnV cs off num) (lnE cs off num) (i + 1 : Nat) (i + 1 : Nat) (num + 1) num y g0 g1 g2 g3 g4 g5 g6 g7 (cod cs off num) (boL (metB cs off num) (num + 1)))) :
    Good Try.prog (boolR true) 2 (wp_F off num cs ty ro rn rc rt (lnV cs off num) (lnE cs off num) i i x (num + 1) num y g0 g1 g2 g3 g4 g5 g6 g7 (cod cs off num) (boL (metB cs off num) (num + 1))) (wp_M off num cs ty ro rn rc rt (lnV cs off num) (lnE cs off num) i i x (num + 1) num y g0 g1 g2 g3 g4 g5 g6 g7 (cod cs off num) (boL (metB cs off num) (num + 1))) := by
  obtain ⟨n64, hA⟩ := mayV_iff.1 hM
  refine past_vc Ep0_ok 1000 (bp_vc off num cs ty ro rn rc rt (lnV cs off num) (lnE cs off num) i i x (num + 1) num y g0 g1 g2 g3 g4 g5 g6 g7 (cod cs off num) (boL (metB cs off num) (num + 1)) (fun most f n i' m1 k nx h0 h1 h2 h3 h4 h5 h6 h7 row bs' => most = (lnV cs off num) ∧ f = (lnE cs off num) ∧ n = (i + 1 : Nat) ∧ i' = (i + 1 : Nat) ∧ m1 = num + 1 ∧ k = num ∧ nx = (y : Nat) ∧ (h0 = g0 ∧ h1 = g1 ∧ h2 = g2 ∧ h3 = g3 ∧ h4 = g4 ∧ h5 = g5 ∧ h6 = g6 ∧ h7 = g7) ∧ row = (cod cs off num) ∧ bs' = (boL (metB cs off num) (num + 1)))) ?_ (fun _ _ h => h)
    (fun fs m hb => bp_go (fun most f n i' m1 k nx h0 h1 h2 h3 h4 h5 h6 h7 row bs' h => ?_) hb)
  · rw [i64_add1 (show i < 1000 by omega), i64_add1 (show x < 1000 by omega), Int.toNat_natCast, Int.toNat_natCast]
    have e0 : decide ((x : Int) < 0) = false := decide_eq_false (by omega)
    have e3 : decide ((x : Int) ≥ (num : Int)) = false := decide_eq_false (by omega)
    have e4 : decide ((y : Int) < 0) = false := decide_eq_false (by omega)
    have e5 : decide ((y : Int) > (num : Int)) = false := decide_eq_false (by omega)
    have w6 : (0 : Int) ≤ (x : Int) ∧ (x : Int) < (num : Int) := by omega
    have w7 : (0 : Int) ≤ (y : Int) ∧ (y : Int) < ((num + 1 : Nat) : Int) := by omega
    obtain ⟨b1, b2⟩ := bo_at (metB cs off num) (n := num + 1) (i := y) (by omega)
    rw [b2, hmy]
    obtain ⟨⟨i1, i2, i3, i4, i5⟩, r1, r2, r3, r4, r5⟩ := hI.2 x hx
    obtain ⟨_, _, _, _, k5⟩ := Ins.okN_iff.1 (hA x hx)
    have et := toL_eq (cs := cs) (off := off) (show ¬ num ≤ x by omega)
    rw [et] at hy
    simp only [ins] at r1 r5 k5
    have eN : IntKind.i64.wrap (intAt cs (off + x * 5 + 4)) = ((intAt cs (off + x * 5 + 4)).toNat : Int) := by rw [Go.IntWalk.i64_in _ (by omega)]; omega
    rw [eN]
    generalize hnn : (intAt cs (off + x * 5 + 4)).toNat = nn at hy ⊢
    generalize ho : intAt cs (off + x * 5) = o at hy r1 k5 ⊢
    have ty2 : ∀ a : Nat, a = y → ((a : Int) == (y : Int)) = true := fun a h => by rw [beq_iff_eq]; omega
    have ty3 : ∀ a : Nat, a ≠ y → ((a : Int) == (y : Int)) = false := fun a h => by rw [beq_eq_false_iff_ne]; omega
    by_cases o0 : o = 0
    · rw [if_pos o0] at hy; cases hy
    have f0 : (o == 0) = false := by rw [beq_eq_false_iff_ne]; exact o0
    rw [if_neg o0] at hy
    by_cases o5 : o = 5
    · have f5 : (o == 5) = true := by rw [o5]; rfl
      rw [if_pos o5, List.mem_singleton] at hy
      have e7 := ty2 nn hy.symm
      simp only [hI, hM, e0, e3, e4, e5, e7, f0, f5, w6, w7, b1, i1, i5, beqT, beqF, Bool.not_true, Bool.not_false, Bool.true_eq_false, Bool.false_eq_true, false_implies, true_implies, true_and, and_true, qp_d0_ok]
    have f5 : (o == 5) = false := by rw [beq_eq_false_iff_ne]; exact o5
    rw [if_neg o5] at hy
    by_cases o6 : o = 6
    · have f6 : (o == 6) = true := by rw [o6]; rfl
      rw [if_pos o6] at hy
      have eMin : (if ((x + 1 : Nat) : Int) < (nn : Int) then ((x + 1 : Nat) : Int) else (nn : Int)) = ((min (x + 1) nn : Nat) : Int) := by split <;> omega
      have eMax : (if ((x + 1 : Nat) : Int) > (nn : Int) then ((x + 1 : Nat) : Int) else (nn : Int)) = ((max (x + 1) nn : Nat) : Int) := by split <;> omega
      rw [eMin, eMax]
      by_cases d7 : nn = x + 1
      · have f7 : (((max (x + 1) nn : Nat) : Int) == ((min (x + 1) nn : Nat) : Int)) = true := by rw [beq_iff_eq]; omega
        rw [if_pos d7, List.mem_singleton] at hy
        have e7 := ty2 (min (x + 1) nn) (by omega)
        simp only [hI, hM, e0, e3, e4, e5, e7, f0, f5, f6, f7, w6, w7, b1, i1, i5, beqT, beqF, Bool.not_true, Bool.not_false, Bool.true_eq_false, Bool.false_eq_true, false_implies, true_implies, true_and, and_true, qp_d0_ok]
      · have f7 : (((max (x + 1) nn : Nat) : Int) == ((min (x + 1) nn : Nat) : Int)) = false := by rw [beq_eq_false_iff_ne]; omega
        rw [if_neg d7] at hy
        simp only [List.mem_cons, List.not_mem_nil, or_false] at hy
        by_cases hy1 : y = min (x + 1) nn
        · have e7 := ty2 (min (x + 1) nn) hy1.symm
          simp only [hI, hM, e0, e3, e4, e5, e7, f0, f5, f6, f7, w6, w7, b1, i1, i5, beqT, beqF, Bool.not_true, Bool.not_false, Bool.true_eq_false, Bool.false_eq_true, false_implies, true_implies, true_and, and_true, qp_d0_ok]
        · have hy2 : y = max (x + 1) nn := by rcases hy with h | h; exact (hy1 h).elim; exact h
          have e7 := ty3 (min (x + 1) nn) (fun h => hy1 h.symm)
          have e8 := ty2 (max (x + 1) nn) hy2.symm
          simp only [hI, hM, e0, e3, e4, e5, e7, e8, f0, f5, f6, f7, w6, w7, b1, i1, i5, beqT, beqF, Bool.not_true, Bool.not_false, Bool.true_eq_false, Bool.false_eq_true, false_implies, true_implies, true_and, and_true, qp_d0_ok]
    have f6 : (o == 6) = false := by rw [beq_eq_false_iff_ne]; exact o6
    rw [if_neg o6, List.mem_singleton] at hy
    have e7 := ty2 (x + 1) hy.symm
    simp only [hI, hM, e0, e3, e4, e5, e7, f0, f5, f6, w6, w7, b1, i1, i5, beqT, beqF, Bool.not_true, Bool.not_false, Bool.true_eq_false, Bool.false_eq_true, false_implies, true_implies, true_and, and_true, qp_d0_ok]
  · obtain ⟨rfl, rfl, rfl, rfl, rfl, rfl, rfl, ⟨rfl, rfl, rfl, rfl, rfl, rfl, rfl, rfl⟩, rfl, rfl⟩ := h
    exact H
theorem qp_end {i x : Nat} (hx : x ≤ num) (hm : metB cs off num x = true) (hh : lnE cs off num = 0 → i + hgt (toL cs off num) num 66 x ≤ hgt (toL cs off num) num 66 0) (h : 300 ≤ i ∨ num ≤ x ∨ intAt cs (off + x * 5) = 0) (g0 g1 g2 g3 g4 g5 g6 g7 : Int) : Good Try.prog (boolR true) 2 (qp_F off num cs ty ro rn rc rt (lnV cs off num) (lnE cs off num) i i (num + 1) num x g0 g1 g2 g3 g4 g5 g6 g7 (cod cs off num) (boL (metB cs off num) (num + 1))) (qp_M off num cs ty ro rn rc rt (lnV cs off num) (lnE cs off num) i i (num + 1) num x g0 g1 g2 g3 g4 g5 g6 g7 (cod cs off num) (boL (metB cs off num) (num + 1))) := by
  refine past_vc Ep0_ok 1000 (tp0_vc off num cs ty ro rn rc rt (lnV cs off num) (lnE cs off num) i i (num + 1) num x g0 g1 g2 g3 g4 g5 g6 g7 (cod cs off num) (boL (metB cs off num) (num + 1)) (fun _ _ _ _ _ _ _ _ _ _ _ _ _ _ _ _ _ _ => False)) ?_ (fun _ _ h => h) (fun fs m hb => tp0_go (fun _ _ _ _ _ _ _ _ _ _ _ _ _ _ _ _ _ _ h => h.elim) hb)
  rw [Int.toNat_natCast]
  have hend := run_end hI hM hx hm hh
  rcases Nat.lt_or_ge i 300 with d1 | d1
  · have e1 : decide ((i : Int) < 300) = true := decide_eq_true (by omega)
    rcases Nat.lt_or_ge x num with d2 | d2
    · have e2 : decide ((x : Int) ≥ (num : Int)) = false := decide_eq_false (by omega)
      have w6 : (0 : Int) ≤ (x : Int) ∧ (x : Int) < (num : Int) := by omega
      obtain ⟨⟨i1, i2, i3, i4, i5⟩, _⟩ := hI.2 x d2
      have f0 : (intAt cs (off + x * 5) == 0) = true := by rw [beq_iff_eq]; omega
      by_cases f : lnE cs off num = 0
      · have ef : (lnE cs off num != 0) = false := by rw [f]; rfl
        have em : decide ((i : Int) ≤ lnV cs off num) = true := decide_eq_true (hend f).1
        simp only [e1, e2, w6, i1, f0, ef, em, beqT, beqF, Bool.not_true, Bool.not_false, Bool.true_eq_false, Bool.false_eq_true, false_implies, true_implies, true_and, and_true]
      · have ef : (lnE cs off num != 0) = true := bne_iff_ne.2 f
        simp only [e1, e2, w6, i1, f0, ef, beqT, beqF, Bool.not_true, Bool.not_false, Bool.true_eq_false, Bool.false_eq_true, false_implies, true_implies, true_and, and_true]
    · have e2 : decide ((x : Int) ≥ (num : Int)) = true := decide_eq_true (by omega)
      by_cases f : lnE cs off num = 0
      · have ef : (lnE cs off num != 0) = false := by rw [f]; rfl
        have em : decide ((i : Int) ≤ lnV cs off num) = true := decide_eq_true (hend f).1
        simp only [e1, e2, ef, em, beqT, beqF, Bool.not_true, Bool.not_false, Bool.true_eq_false, Bool.false_eq_true, false_implies, true_implies, true_and, and_true]
      · have ef : (lnE cs off num != 0) = true := bne_iff_ne.2 f
        simp only [e1, e2, ef, beqT, beqF, Bool.not_true, Bool.not_false, Bool.true_eq_false, Bool.false_eq_true, false_implies, true_implies, true_and, and_true]
  · have e1 : decide ((i : Int) < 300) = false := decide_eq_false (by omega)
    by_cases f : lnE cs off num = 0
    · have := (hend f).2; omega
    · have ef : (lnE cs off num != 0) = true := bne_iff_ne.2 f
      simp only [e1, ef, beqT, beqF, Bool.not_true, Bool.not_false, Bool.true_eq_false, Bool.false_eq_true, false_implies, true_implies, true_and, and_true]
theorem qp_go {i x : Nat} (d1 : i < 300) (d2 : x < num) (o0 : (ins cs off x).o ≠ 0) (g0 g1 g2 g3 g4 g5 g6 g7 : Int) (H : ∀ (y : Nat) (h0 h1 h2 h3 h4 h5 h6 h7 : Int), y ∈ toL cs off num x → Good Try.prog (boolR true) 2 (wp_F off num cs ty ro rn rc rt (lnV cs off num) (lnE cs off num) i i x (num + 1) num y h0 h1 h2 h3 h4 h5 h6 h7 (cod cs off num) (boL (metB cs off num) (num + 1))) (wp_M off num cs ty ro rn rc rt (lnV cs off num) (lnE cs off num) i i x (num + 1) num y h0 h1 h2 h3 h4 h5 h6 h7 (cod cs off num) (boL (metB cs off num) (num + 1)))) : Good Try.prog (boolR true) 2 (qp_F off num cs ty ro rn rc rt (lnV cs off num) (lnE cs off num) i i (num + 1) num x g0 g1 g2 g3 g4 g5 g6 g7 (cod cs off num) (boL (metB cs off num) (num + 1))) (qp_M off num cs ty ro rn rc rt (lnV cs off num) (lnE cs off num) i i (num + 1) num x g0 g1 g2 g3 g4 g5 g6 g7 (cod cs off num) (boL (metB cs off num) (num + 1))) := by
  obtain ⟨n64, hA⟩ := mayV_iff.1 hM
  have e1 : decide ((i : Int) < 300) = true := decide_eq_true (by omega)
  have e2 : decide ((x : Int) ≥ (num : Int)) = false := decide_eq_false (by omega)
  have w6 : (0 : Int) ≤ (x : Int) ∧ (x : Int) < (num : Int) := by omega
  have w7 : (0 : Int) ≤ (x : Int) ∧ (x : Int) < ((0 + num : Nat) : Int) := by omega
  obtain ⟨⟨i1, i2, i3, i4, i5⟩, r1, r2, r3, r4, r5⟩ := hI.2 x d2
  obtain ⟨k1, _, _, _, k5⟩ := Ins.okN_iff.1 (hA x d2)
  obtain ⟨c1, c2, c3, c4, c5⟩ := cod_at hI hM d2
  have hin8 := c2
  obtain ⟨_, m2, m3, _⟩ := hin8
  have f0 : (intAt cs (off + x * 5) == 0) = false := by rw [beq_eq_false_iff_ne]; exact o0
  have cx := cod_ext hI hM
  have cz := cod_size hI hM
  have s1 : 0 + num * 5 ≤ (cod cs off num).size := by omega
  have s2 : (0 + num) * 6 ≤ 140737488355328 := by omega
  have s3 : 0 + num ≤ 140737488355328 := by omega
  have s4 : decide (intAt (cod cs off num) (at5 0 (x : Int) + 1) < 8) = true := decide_eq_true c5.2
  have s5 : 2 ≤ 2 + (intAt (cod cs off num) (at5 0 (x : Int) + 1)).toNat * 1 ∧ 2 + (intAt (cod cs off num) (at5 0 (x : Int) + 1)).toNat * 1 < 10 := by omega
  have eN : IntKind.i64.wrap (intAt (cod cs off num) (at5 0 (x : Int) + 4)) = ((ins cs off x).n.toNat : Int) := by rw [c4, Go.IntWalk.i64_in _ (by omega)]; omega
  have eK : num = 0 + num := by omega
  have er0 : ((rn : Int) == 0) = false := by rw [beq_eq_false_iff_ne]; omega
  have er1 : (rn : Int) ≠ 0 := by omega
  have erm : ari BinOp.rem IntKind.i64 (i : Int) (rn : Int) = ((i % rn : Nat) : Int) := remN (by omega) (by omega)
  have hlt : i % rn < rn := Nat.mod_lt _ (by omega)
  have er2 : (0 : Int) ≤ ((i % rn : Nat) : Int) ∧ ((i % rn : Nat) : Int) < (rn : Int) := by omega
  obtain ⟨v1, v2, v3⟩ := hr _ hlt
  by_cases c : 16 < (ins cs off x).o ∧ (ins cs off x).o ≤ 38
  · have hk : 16 < intAt (cod cs off num) (at5 0 (x : Int)) ∧ intAt (cod cs off num) (at5 0 (x : Int)) ≤ 38 := by rw [c3]; exact c
    have hn : ∃ y : Nat, ((x + 1 : Nat) : Int) = y ∧ y ∈ toL cs off num x := ⟨x + 1, rfl, to_next hI hM d2 o0 (by omega)⟩
    refine past_vc Ep2_ok 1000 (tp2_vc off num cs ty ro rn rc rt (lnV cs off num) (lnE cs off num) i i (num + 1) num x g0 g1 g2 g3 g4 g5 g6 g7 (cod cs off num) (boL (metB cs off num) (num + 1)) (fun most f n i' was m1 k nx h0 h1 h2 h3 h4 h5 h6 h7 row bs' => most = (lnV cs off num) ∧ f = (lnE cs off num) ∧ n = (i : Nat) ∧ i' = (i : Nat) ∧ was = (x : Nat) ∧ m1 = num + 1 ∧ k = 0 + num ∧ row = (cod cs off num) ∧ bs' = (boL (metB cs off num) (num + 1)) ∧ ∃ y : Nat, nx = y ∧ y ∈ toL cs off num x)) ?_ (fun _ _ h => h)
      (fun fs m hb => tp2_go (fun most f n i' was m1 k nx h0 h1 h2 h3 h4 h5 h6 h7 row bs' h => ?_) hb)
    · try rw [i64_add1 (show x < 1000 by omega)]
      rw [erm]
      rw [Int.toNat_natCast, cx, Int.toNat_natCast]
      simp only [e1, e2, decide_true, f0, w6, w7, i1, c1, c2, c5, m2, m3, hk, s1, s2, s3, s4, s5, hn, er0, er1, er2, v1, v2, v3, beqT, beqF, Bool.not_true, Bool.not_false, Bool.true_eq_false, Bool.false_eq_true, false_implies, true_implies, true_and, and_true, wp_d0_ok, ne_eq, not_false_eq_true]
      all_goals (try (repeat' first | exact trivial | exact rfl | apply And.intro | (intro _) | omega))
    · obtain ⟨rfl, rfl, rfl, rfl, rfl, rfl, e, rfl, rfl, y, rfl, hy⟩ := h
      obtain rfl : k = num := by omega
      exact H y h0 h1 h2 h3 h4 h5 h6 h7 hy
  by_cases c : (ins cs off x).o = 1
  · have hk : intAt (cod cs off num) (at5 0 (x : Int)) = 1 := by rw [c3]; exact c
    have hn : ∃ y : Nat, ((x + 1 : Nat) : Int) = y ∧ y ∈ toL cs off num x := ⟨x + 1, rfl, to_next hI hM d2 o0 (by omega)⟩
    refine past_vc Ep3_ok 1000 (tp3_vc off num cs ty ro rn rc rt (lnV cs off num) (lnE cs off num) i i (num + 1) num x g0 g1 g2 g3 g4 g5 g6 g7 (cod cs off num) (boL (metB cs off num) (num + 1)) (fun most f n i' was m1 k nx h0 h1 h2 h3 h4 h5 h6 h7 row bs' => most = (lnV cs off num) ∧ f = (lnE cs off num) ∧ n = (i : Nat) ∧ i' = (i : Nat) ∧ was = (x : Nat) ∧ m1 = num + 1 ∧ k = 0 + num ∧ row = (cod cs off num) ∧ bs' = (boL (metB cs off num) (num + 1)) ∧ ∃ y : Nat, nx = y ∧ y ∈ toL cs off num x)) ?_ (fun _ _ h => h)
      (fun fs m hb => tp3_go (fun most f n i' was m1 k nx h0 h1 h2 h3 h4 h5 h6 h7 row bs' h => ?_) hb)
    · try rw [i64_add1 (show x < 1000 by omega)]
      rw [erm]
      rw [Int.toNat_natCast, cx, Int.toNat_natCast]
      simp only [e1, e2, decide_true, f0, w6, w7, i1, c1, c2, c5, m2, m3, hk, s1, s2, s3, s4, s5, hn, er0, er1, er2, v1, v2, v3, beqT, beqF, Bool.not_true, Bool.not_false, Bool.true_eq_false, Bool.false_eq_true, false_implies, true_implies, true_and, and_true, wp_d0_ok, ne_eq, not_false_eq_true]
      all_goals (try (repeat' first | exact trivial | exact rfl | apply And.intro | (intro _) | omega))
    · obtain ⟨rfl, rfl, rfl, rfl, rfl, rfl, e, rfl, rfl, y, rfl, hy⟩ := h
      obtain rfl : k = num := by omega
      exact H y h0 h1 h2 h3 h4 h5 h6 h7 hy
  by_cases c : (ins cs off x).o = 2
  · have hk : intAt (cod cs off num) (at5 0 (x : Int)) = 2 := by rw [c3]; exact c
    have hn : ∃ y : Nat, ((x + 1 : Nat) : Int) = y ∧ y ∈ toL cs off num x := ⟨x + 1, rfl, to_next hI hM d2 o0 (by omega)⟩
    refine past_vc Ep4_ok 1000 (tp4_vc off num cs ty ro rn rc rt (lnV cs off num) (lnE cs off num) i i (num + 1) num x g0 g1 g2 g3 g4 g5 g6 g7 (cod cs off num) (boL (metB cs off num) (num + 1)) (fun most f n i' was m1 k nx h0 h1 h2 h3 h4 h5 h6 h7 row bs' => most = (lnV cs off num) ∧ f = (lnE cs off num) ∧ n = (i : Nat) ∧ i' = (i : Nat) ∧ was = (x : Nat) ∧ m1 = num + 1 ∧ k = 0 + num ∧ row = (cod cs off num) ∧ bs' = (boL (metB cs off num) (num + 1)) ∧ ∃ y : Nat, nx = y ∧ y ∈ toL cs off num x)) ?_ (fun _ _ h => h)
      (fun fs m hb => tp4_go (fun most f n i' was m1 k nx h0 h1 h2 h3 h4 h5 h6 h7 row bs' h => ?_) hb)
    · try rw [i64_add1 (show x < 1000 by omega)]
      rw [erm]
      rw [Int.toNat_natCast, cx, Int.toNat_natCast]
      simp only [e1, e2, decide_true, f0, w6, w7, i1, c1, c2, c5, m2, m3, hk, s1, s2, s3, s4, s5, hn, er0, er1, er2, v1, v2, v3, beqT, beqF, Bool.not_true, Bool.not_false, Bool.true_eq_false, Bool.false_eq_true, false_implies, true_implies, true_and, and_true, wp_d0_ok, ne_eq, not_false_eq_true]
      all_goals (try (repeat' first | exact trivial | exact rfl | apply And.intro | (intro _) | omega))
    · obtain ⟨rfl, rfl, rfl, rfl, rfl, rfl, e, rfl, rfl, y, rfl, hy⟩ := h
      obtain rfl : k = num := by omega
      exact H y h0 h1 h2 h3 h4 h5 h6 h7 hy
  by_cases c : (ins cs off x).o = 3
  · have hk : intAt (cod cs off num) (at5 0 (x : Int)) = 3 := by rw [c3]; exact c
    have hn : ∃ y : Nat, ((x + 1 : Nat) : Int) = y ∧ y ∈ toL cs off num x := ⟨x + 1, rfl, to_next hI hM d2 o0 (by omega)⟩
    refine past_vc Ep5_ok 1000 (tp5_vc off num cs ty ro rn rc rt (lnV cs off num) (lnE cs off num) i i (num + 1) num x g0 g1 g2 g3 g4 g5 g6 g7 (cod cs off num) (boL (metB cs off num) (num + 1)) (fun most f n i' was m1 k nx h0 h1 h2 h3 h4 h5 h6 h7 row bs' => most = (lnV cs off num) ∧ f = (lnE cs off num) ∧ n = (i : Nat) ∧ i' = (i : Nat) ∧ was = (x : Nat) ∧ m1 = num + 1 ∧ k = 0 + num ∧ row = (cod cs off num) ∧ bs' = (boL (metB cs off num) (num + 1)) ∧ ∃ y : Nat, nx = y ∧ y ∈ toL cs off num x)) ?_ (fun _ _ h => h)
      (fun fs m hb => tp5_go (fun most f n i' was m1 k nx h0 h1 h2 h3 h4 h5 h6 h7 row bs' h => ?_) hb)
    · try rw [i64_add1 (show x < 1000 by omega)]
      rw [erm]
      rw [Int.toNat_natCast, cx, Int.toNat_natCast]
      simp only [e1, e2, decide_true, f0, w6, w7, i1, c1, c2, c5, m2, m3, hk, s1, s2, s3, s4, s5, hn, er0, er1, er2, v1, v2, v3, beqT, beqF, Bool.not_true, Bool.not_false, Bool.true_eq_false, Bool.false_eq_true, false_implies, true_implies, true_and, and_true, wp_d0_ok, ne_eq, not_false_eq_true]
      all_goals (try (repeat' first | exact trivial | exact rfl | apply And.intro | (intro _) | omega))
    · obtain ⟨rfl, rfl, rfl, rfl, rfl, rfl, e, rfl, rfl, y, rfl, hy⟩ := h
      obtain rfl : k = num := by omega
      exact H y h0 h1 h2 h3 h4 h5 h6 h7 hy
  by_cases c : (ins cs off x).o = 4
  · have hk : intAt (cod cs off num) (at5 0 (x : Int)) = 4 := by rw [c3]; exact c
    have hn : ∃ y : Nat, ((x + 1 : Nat) : Int) = y ∧ y ∈ toL cs off num x := ⟨x + 1, rfl, to_next hI hM d2 o0 (by omega)⟩
    refine past_vc Ep6_ok 1000 (tp6_vc off num cs ty ro rn rc rt (lnV cs off num) (lnE cs off num) i i (num + 1) num x g0 g1 g2 g3 g4 g5 g6 g7 (cod cs off num) (boL (metB cs off num) (num + 1)) (fun most f n i' was m1 k nx h0 h1 h2 h3 h4 h5 h6 h7 row bs' => most = (lnV cs off num) ∧ f = (lnE cs off num) ∧ n = (i : Nat) ∧ i' = (i : Nat) ∧ was = (x : Nat) ∧ m1 = num + 1 ∧ k = 0 + num ∧ row = (cod cs off num) ∧ bs' = (boL (metB cs off num) (num + 1)) ∧ ∃ y : Nat, nx = y ∧ y ∈ toL cs off num x)) ?_ (fun _ _ h => h)
      (fun fs m hb => tp6_go (fun most f n i' was m1 k nx h0 h1 h2 h3 h4 h5 h6 h7 row bs' h => ?_) hb)
    · try rw [i64_add1 (show x < 1000 by omega)]
      rw [erm]
      rw [Int.toNat_natCast, cx, Int.toNat_natCast]
      simp only [e1, e2, decide_true, f0, w6, w7, i1, c1, c2, c5, m2, m3, hk, s1, s2, s3, s4, s5, hn, er0, er1, er2, v1, v2, v3, beqT, beqF, Bool.not_true, Bool.not_false, Bool.true_eq_false, Bool.false_eq_true, false_implies, true_implies, true_and, and_true, wp_d0_ok, ne_eq, not_false_eq_true]
      all_goals (try (repeat' first | exact trivial | exact rfl | apply And.intro | (intro _) | omega))
    · obtain ⟨rfl, rfl, rfl, rfl, rfl, rfl, e, rfl, rfl, y, rfl, hy⟩ := h
      obtain rfl : k = num := by omega
      exact H y h0 h1 h2 h3 h4 h5 h6 h7 hy
  by_cases c : (ins cs off x).o = 5
  · have hk : intAt (cod cs off num) (at5 0 (x : Int)) = 5 := by rw [c3]; exact c
    have hj : ∃ y : Nat, ((ins cs off x).n.toNat : Int) = y ∧ y ∈ toL cs off num x := ⟨_, rfl, to_jump hI hM d2 (by omega)⟩
    refine past_vc Ep7_ok 1000 (tp7_vc off num cs ty ro rn rc rt (lnV cs off num) (lnE cs off num) i i (num + 1) num x g0 g1 g2 g3 g4 g5 g6 g7 (cod cs off num) (boL (metB cs off num) (num + 1)) (fun most f n i' was m1 k nx h0 h1 h2 h3 h4 h5 h6 h7 row bs' => most = (lnV cs off num) ∧ f = (lnE cs off num) ∧ n = (i : Nat) ∧ i' = (i : Nat) ∧ was = (x : Nat) ∧ m1 = num + 1 ∧ k = 0 + num ∧ row = (cod cs off num) ∧ bs' = (boL (metB cs off num) (num + 1)) ∧ ∃ y : Nat, nx = y ∧ y ∈ toL cs off num x)) ?_ (fun _ _ h => h)
      (fun fs m hb => tp7_go (fun most f n i' was m1 k nx h0 h1 h2 h3 h4 h5 h6 h7 row bs' h => ?_) hb)
    · try rw [i64_add1 (show x < 1000 by omega)]
      rw [erm]
      rw [Int.toNat_natCast, cx, eN, Int.toNat_natCast]
      simp only [e1, e2, decide_true, f0, w6, w7, i1, c1, c2, c5, m2, m3, hk, s1, s2, s3, s4, s5, hj, er0, er1, er2, v1, v2, v3, beqT, beqF, Bool.not_true, Bool.not_false, Bool.true_eq_false, Bool.false_eq_true, false_implies, true_implies, true_and, and_true, wp_d0_ok, ne_eq, not_false_eq_true]
      all_goals (try (repeat' first | exact trivial | exact rfl | apply And.intro | (intro _) | omega))
    · obtain ⟨rfl, rfl, rfl, rfl, rfl, rfl, e, rfl, rfl, y, rfl, hy⟩ := h
      obtain rfl : k = num := by omega
      exact H y h0 h1 h2 h3 h4 h5 h6 h7 hy
  by_cases c : (ins cs off x).o = 6
  · have hk : intAt (cod cs off num) (at5 0 (x : Int)) = 6 := by rw [c3]; exact c
    have hn : ∃ y : Nat, ((x + 1 : Nat) : Int) = y ∧ y ∈ toL cs off num x := ⟨x + 1, rfl, to_next hI hM d2 o0 (by omega)⟩
    have hj : ∃ y : Nat, ((ins cs off x).n.toNat : Int) = y ∧ y ∈ toL cs off num x := ⟨_, rfl, to_jump hI hM d2 (by omega)⟩
    refine past_vc Ep8_ok 1000 (tp8_vc off num cs ty ro rn rc rt (lnV cs off num) (lnE cs off num) i i (num + 1) num x g0 g1 g2 g3 g4 g5 g6 g7 (cod cs off num) (boL (metB cs off num) (num + 1)) (fun most f n i' was m1 k nx h0 h1 h2 h3 h4 h5 h6 h7 row bs' => most = (lnV cs off num) ∧ f = (lnE cs off num) ∧ n = (i : Nat) ∧ i' = (i : Nat) ∧ was = (x : Nat) ∧ m1 = num + 1 ∧ k = 0 + num ∧ row = (cod cs off num) ∧ bs' = (boL (metB cs off num) (num + 1)) ∧ ∃ y : Nat, nx = y ∧ y ∈ toL cs off num x)) ?_ (fun _ _ h => h)
      (fun fs m hb => tp8_go (fun most f n i' was m1 k nx h0 h1 h2 h3 h4 h5 h6 h7 row bs' h => ?_) hb)
    · try rw [i64_add1 (show x < 1000 by omega)]
      rw [erm]
      rw [Int.toNat_natCast, cx, eN, Int.toNat_natCast]
      simp only [e1, e2, decide_true, f0, w6, w7, i1, c1, c2, c5, m2, m3, hk, s1, s2, s3, s4, s5, hn, hj, er0, er1, er2, v1, v2, v3, beqT, beqF, Bool.not_true, Bool.not_false, Bool.true_eq_false, Bool.false_eq_true, false_implies, true_implies, true_and, and_true, wp_d0_ok, ne_eq, not_false_eq_true]
      all_goals (try (repeat' first | exact trivial | exact rfl | apply And.intro | (intro _) | omega))
    · obtain ⟨rfl, rfl, rfl, rfl, rfl, rfl, e, rfl, rfl, y, rfl, hy⟩ := h
      obtain rfl : k = num := by omega
      exact H y h0 h1 h2 h3 h4 h5 h6 h7 hy
  omega
theorem qp_round : ∀ (K i x : Nat) (g0 g1 g2 g3 g4 g5 g6 g7 : Int), 300 - i < K → x ≤ num → metB cs off num x = true → (lnE cs off num = 0 → i + hgt (toL cs off num) num 66 x ≤ hgt (toL cs off num) num 66 0) → Good Try.prog (boolR true) 2 (qp_F off num cs ty ro rn rc rt (lnV cs off num) (lnE cs off num) i i (num + 1) num x g0 g1 g2 g3 g4 g5 g6 g7 (cod cs off num) (boL (metB cs off num) (num + 1))) (qp_M off num cs ty ro rn rc rt (lnV cs off num) (lnE cs off num) i i (num + 1) num x g0 g1 g2 g3 g4 g5 g6 g7 (cod cs off num) (boL (metB cs off num) (num + 1))) := by
  intro K
  induction K with
  | zero => intro i x g0 g1 g2 g3 g4 g5 g6 g7 h; omega
  | succ K ih =>
    intro i x g0 g1 g2 g3 g4 g5 g6 g7 hK hx hm hh
    by_cases h : 300 ≤ i ∨ num ≤ x ∨ intAt cs (off + x * 5) = 0
    · exact qp_end off num cs ty ro rn rc rt hI hM hr hr0 hr1 hx hm hh h g0 g1 g2 g3 g4 g5 g6 g7
    · have d1 : i < 300 := by omega
      have d2 : x < num := by omega
      have o0 : (ins cs off x).o ≠ 0 := fun e => h (.inr (.inr e))
      refine qp_go off num cs ty ro rn rc rt hI hM hr hr0 hr1 d1 d2 o0 g0 g1 g2 g3 g4 g5 g6 g7 (fun y h0 h1 h2 h3 h4 h5 h6 h7 hy => ?_)
      obtain ⟨a1, a2, _, a3⟩ := run_keep hI hM hx hm hy hh
      exact wp_go off num cs ty ro rn rc rt hI hM hr hr0 hr1 d2 hy a2 a1 d1 h0 h1 h2 h3 h4 h5 h6 h7 (ih (i + 1) y h0 h1 h2 h3 h4 h5 h6 h7 (by omega) a2 a1 a3)
end
theorem runs_p (off num : Nat) (cs : Array Value) (ty : TypeId) (ro rn : Nat) (rc : Array Value) (rt : TypeId) (hr : rn ≤ 60 → RsOk rc ro rn) (hr0 : rn ≠ 0) (hI : num ≤ 200 → InsOk cs off num) (h0 : num ≠ 0) : Good Try.prog (boolR true) 2 [callFr 3 Try.f3.ntmps [prS off num, rsS ro rn] (Try.f3.body.getD .skip)] (mkM 2 [(0, ⟨.raw cs, ty, false⟩), (1, ⟨.raw rc, rt, false⟩)]) := by
  refine run_vc Ep0_ok 8000 (sp_vc off num cs ty ro rn rc rt (fun most f n i' m1 k nx h0 h1 h2 h3 h4 h5 h6 h7 row bs' => most = (lnV cs off num) ∧ f = (lnE cs off num) ∧ n = (0 : Nat) ∧ i' = (0 : Nat) ∧ m1 = num + 1 ∧ num = k ∧ nx = (0 : Nat) ∧ row = (cod cs off num) ∧ bs' = (boL (metB cs off num) (num + 1)) ∧ mayV cs off num = true ∧ rn ≤ 60)) ?_ (fun _ _ h => h)
    (fun fs m hb => sp_go (fun most f n i' m1 k nx h0 h1 h2 h3 h4 h5 h6 h7 row bs' h => ?_) hb)
  · refine ⟨fun h2 => ?_, fun _ => rfl⟩
    have h2 : num ≤ 200 := by have h2 : ¬ (num : Int) > 200 := by simpa using h2
                              omega
    have hI := hI h2
    refine ⟨fun _ => rfl, fun h3 => ?_⟩
    have h3 : rn ≤ 60 := by have h3 : ¬ (rn : Int) > 60 := by simpa using h3
                            omega
    refine ⟨⟨hI, h0, trivial⟩, fun hM => ?_, fun _ => rfl⟩
    have n64 := (mayV_iff.1 hM).1
    have e1 : (((num + 1 : Nat) : Int) != ((num + 1 : Nat) : Int)) = false := by simp
    rw [i64_add1 (show num < 1000 by omega)]
    simp only [hI, hM, e1, h3, Bool.not_true, Bool.not_false, Bool.true_eq_false, Bool.false_eq_true, false_implies, true_implies, true_and, and_true, qp_d0_ok]
    repeat' first | exact trivial | exact rfl | apply And.intro
  · obtain ⟨rfl, rfl, rfl, rfl, rfl, e, rfl, rfl, rfl, hM, hr3⟩ := h
    subst e
    have n64 := (mayV_iff.1 hM).1
    have hI := hI (by omega)
    exact qp_round off num cs ty ro rn rc rt hI hM (hr hr3) hr0 hr3 301 0 0 h0 h1 h2 h3 h4 h5 h6 h7 (by omega) (Nat.zero_le _) ((met_iff hI hM).2 (.refl (by decide))) (fun _ => by omega)
end Go.Proofs.Ytpohnmafnpnmeaa
/- Of flow: FlowRuns of a program that is empty: its environment. No condition. -/
namespace Go.Proofs.Ytpohnmafnpnmeaa
noncomputable section
def conZ (g : FuncId) (l : List SV) (m : SMem) : Option Tree := match g, l with
  | 6, [] => some (needs [] (.ret (sB (.l true)) m))
  | _, _ => none
def EZ : Env := ⟨Try.prog, fnOf, conZ, fun _ _ _ => false⟩
def e0V : SV := .s (.c (.f .e0))
end
theorem conZ_ok (g : FuncId) (l : List SV) (m : SMem) (t : Tree) (h : conZ g l m = some t) : Con E0 g l m t := by
  unfold conZ at h
  split at h
  · exact conA_ok 6 [] _ _ h
  · cases h
theorem EZ_ok : EnvOk EZ := EnvOk.with E0_ok _ _ conZ_ok
end Go.Proofs.Ytpohnmafnpnmeaa
/- Of flow: FlowRuns of a program that is empty. -/
namespace Go.Proofs.Ytpohnmafnpnmeaa
set_option maxRecDepth 100000
theorem ee_vc (_z : Nat) : (run EZ 8000 1 [callFr 3 Try.f3.ntmps [e0V, e0V] (Try.f3.body.getD .skip)] (mkM 1 [])).vc (boolR true) (fun _ _ => False) =
    (true = true) := by kernel_rfl
theorem er_vc (ro rn : Nat) (rc : Array Value) (rt : TypeId) : (run EZ 8000 1 [callFr 3 Try.f3.ntmps [e0V, prS ro rn] (Try.f3.body.getD .skip)] (rawM rc rt)).vc (boolR true) (fun _ _ => False) =
    ((decide ((↑rn : Int) > (60 : Int)) = true → true = true) ∧ (decide ((↑rn : Int) > (60 : Int)) = false → true = true)) := by kernel_rfl
end Go.Proofs.Ytpohnmafnpnmeaa
/- How a call of data enters the symbolic machine, and how what it leaves is told; without package-level variables. No condition. -/
namespace Go.Proofs.Ytpohnmafnpnmeaa
noncomputable section
open Go.ChangeShapes Go.WideShapes Go.ChangeAt Go.RowKit Go.Deep
theorem own : ownKnob Try.prog.godebug = none := by kernel_rfl
theorem laidOut : laidOutB Try.prog = true := by kernel_rfl
theorem sub_get {l : List Value} {a b o : Nat} {v : Value} (h : ((l.drop a).take b)[o]? = some v) : l[a + o]? = some v := by
  rw [List.getElem?_take] at h
  split at h
  · rw [List.getElem?_drop] at h; exact h
  · cases h
theorem sub_one {l : List Value} {a b : Nat} {v : Value} (h : (l.drop a).take b = [v]) : l[a]? = some v := by
  have : ((l.drop a).take b)[0]? = some v := by rw [h]; rfl
  exact sub_get this
section
variable {H : Type} {enc : TypeId × Value → H} {P : Program} {w : World} {base : Nat} {spare : Nat → Bool} {held : Bool}
theorem field_of {t : TypeId} {fs : Array Field} {fuel : Nat} {cs : List Value} {x : DataW H × List MemPlace} (ht : P.underlying t = some (.struct fs)) (h : DataW.trod enc P w base spare held fuel t cs = some x)
    (i : Nat) {f : Field} (hf : fs[i]? = some f) : ∃ n y, DataW.trod enc P w base spare held n f.type ((cs.drop f.offset).take (P.cellsOf f.type)) = some y := by
  obtain ⟨ys, n, _, _, _, hyl, hg⟩ := DataW.trod_struct ht h
  have hlt : i < fs.size := (Array.getElem?_eq_some_iff.1 hf).1
  have hys : ys[i]? = some (ys[i]'(by omega)) := List.getElem?_eq_getElem (by omega)
  exact ⟨n, _, (hg i f hf).trans hys⟩
theorem add_none (b off n : Nat) : (⟨b, off, none⟩ : Addr).add n = ⟨b, off + n, none⟩ := by
  unfold Addr.add
  split
  · rename_i e; subst e; rfl
  · rfl
theorem slice_cells {t e : TypeId} {base' C : Nat} {fuel : Nat} {A : Option Addr} {len cap : Nat} {x : DataW H × List MemPlace} (ht : P.underlying t = some (.slice e)) (hC : P.cellsOf e = C)
    (hok : Value.okWide P w .any base t (.slice A len cap)) (h : DataW.trod enc P w base' (fun _ => true) held fuel t [.slice A len cap] = some x) :
    (A = none ∧ len = 0 ∧ cap = 0) ∨ ∃ b off cs ty fz, A = some ⟨b, off, none⟩ ∧ len ≤ cap ∧ cap ≤ maxLen ∧ w.heap[b]? = some (.cells cs ty fz) ∧
      ∀ j, j < len → ∃ n y, DataW.trod enc P w base' (fun _ => true) held n e ((cs.toList.drop (off + j * C)).take C) = some y := by
  rcases open_slice ht h with ⟨hcs, hx⟩ | ⟨a, len', cap', m, n, D, Pl, hcs, _, hl, hmx, hm, hx, hi⟩
  · simp at hcs
    exact .inl hcs
  · simp at hcs
    obtain ⟨rfl, rfl, rfl⟩ := hcs
    simp at hm
    subst hm
    obtain ⟨b, off, spot⟩ := a
    simp only [Value.okWide, ht, Cell.okWide, Cell.ok] at hok
    obtain ⟨_, _, _, hs, _, _, hsh, _⟩ := hok
    have hs : spot = none := hs
    subst hs
    cases ho : w.heap[b]? with
    | none => simp [World.shape?, ho] at hsh
    | some o =>
      have hcells : ∃ cs ty fz, o = .cells cs ty fz := by
        cases o <;> first | exact ⟨_, _, _, rfl⟩ | simp [World.shape?, ho] at hsh
      obtain ⟨cs, ty, fz, rfl⟩ := hcells
      refine .inr ⟨b, off, cs, ty, fz, rfl, hl, hmx, ho, fun j hj => ?_⟩
      obtain ⟨cs', hc, ht'⟩ := hi j (by omega)
      rw [hC] at hc
      obtain ⟨_, hcl, hat⟩ := World.cells?_some hc
      refine ⟨n, (D j, Pl j), ?_⟩
      rw [← ht']
      congr 1
      apply List.ext_getElem?
      intro i
      rw [List.getElem?_take]
      by_cases hi' : i < C
      · rw [if_pos hi', ← hat i hi', add_none, add_none]
        simp [World.cell?, ho, Nat.add_assoc]
      · rw [if_neg hi', List.getElem?_eq_none (by omega)]
theorem post_of_below {f : Func} {s : ChangeSpec} {apart fresh handsOn again : Bool} {W W' : World} {args : Array Value} {v : Value} {ds gs : List (DataW H)} {before pa pv : List MemPlace}
    (hW : DataW.Whole enc P f.params.toList s.vars apart W args.toList ds gs before)
    (hres : ∀ (b : Nat) (sp : Nat → Bool) (hd : Bool), DataW.TrodAll enc P W' b sp hd f.resultTypes.toList (v.resultList f.resultTypes.size) (s.fn H (ds ++ gs)).results [])
    (hargs : ∀ sp : Nat → Bool, (∀ p ∈ before, sp p.block = true) → DataW.TrodAll enc P W' 0 sp true f.params.toList args.toList (s.fn H (ds ++ gs)).args pa)
    (hvars : ∀ sp : Nat → Bool, (∀ p ∈ before, sp p.block = true) → DataW.TrodVars enc P W' sp s.vars (s.fn H (ds ++ gs)).vars pv)
    (hps : before = pa ++ pv) (hb : Below W.heap.size W W')
    (hok : ∀ (j : Nat) (t : TypeId) (r : Value), f.resultTypes[j]? = some t → (v.resultList f.resultTypes.size)[j]? = some r → Value.okWide P W' .any 0 t r) :
    s.post enc P f apart fresh handsOn again W args v W' := by
  have hlt : ∀ p ∈ before, p.block < W.heap.size := fun p hp => hW.lt p hp
  have hold : ∀ p ∈ before, (fun b => decide (b < W.heap.size)) p.block = true := fun p hp => by simpa using hlt p hp
  refine ⟨ds, gs, before, [], pa, pv, hW, hres _ _ _, hargs _ hold, hvars _ hold, World.keptBut_mono (fun p hp => ⟨hp, ?_⟩) (hb.frame (· ∈ before)), fun _ => ?_⟩
  · rw [hps, List.mem_append] at hp
    exact Or.inr hp
  · obtain ⟨_, _, _, _, _, hz, hn⟩ := hW
    refine ⟨hok, _, _, ([] ++ pa) ++ pv, ⟨[] ++ pa, pv, trodAll_append (hargs _ (fun _ _ => rfl)) (hres _ _ _), hvars _ (fun _ _ => rfl), rfl, ?_, ?_⟩, ?_⟩
    · intro b off hp
      have hin : MemPlace.cell b off ∈ before := by rw [hps]; simpa using hp
      rw [hb.frozen (hlt _ hin)]
      exact hz b off hin
    · intro ha
      have := hn ha
      rw [hps] at this
      simpa using this
    · intro p hp _
      rw [hps]
      simpa using hp
end
theorem below_of {n0 : Nat} {w0 w : World} (h : BelowF n0 (fun _ => False) w0 w) : Below n0 w0 w := ⟨h.os, h.tape, h.output, h.size, fun k hk => h.block k hk fun x => x⟩
theorem rel_empty (hg : glTab = []) (W : World) (n : Nat) : Rel W.heap.size (fun _ => False) W (fun _ => none) ⟨n, .nil, []⟩ W :=
  ⟨fun _ _ _ _ _ _ h => by (cases h), fun _ _ h => by (cases h), fun _ _ h => by (cases h), fun i b h => by (have h : (Tr.nil : Tr SBlk).get i = some b := h; rw [Tr.get_nil] at h; cases h), Nat.le_refl _, BelowF.refl _ _ _,
    fun _ _ h => by (cases h), fun _ _ _ _ _ _ h => by (cases h), fun g cs h => by rw [hg] at h; cases h⟩
def oneD (ds : Array Value) (ty : TypeId) : SMem := ⟨1, Tr.node .nil (some ⟨.raw ds, ty, false⟩) .nil, []⟩
theorem one_get {ds : Array Value} {ty : TypeId} {i : Nat} {b : SBlk} (h : getB (oneD ds ty).bl i = some b) : i = 0 ∧ b = ⟨.raw ds, ty, false⟩ := by
  unfold getB oneD at h
  cases i with
  | zero => cases h; exact ⟨rfl, rfl⟩
  | succ i =>
    rw [Tr.get_succ, Tr.get_nil, ite_self] at h
    cases h
theorem rel_one (hg : glTab = []) {W : World} {b : Nat} {cs : Array Value} {ty : TypeId} {fz : Nat × Nat} (hb : W.heap[b]? = some (.cells cs ty fz)) :
    Rel W.heap.size (fun _ => False) W (fun i => if i = 0 then some ⟨b, cs.size⟩ else none) (oneD cs ty) W := by
  have key : ∀ {i : Nat} {g : Loc}, (if i = 0 then some (⟨b, cs.size⟩ : Loc) else none) = some g → i = 0 ∧ g = ⟨b, cs.size⟩ := by
    intro i g h
    split at h
    · rename_i e; cases h; exact ⟨e, rfl⟩
    · cases h
  have hlt : b < W.heap.size := (Array.getElem?_eq_some_iff.1 hb).1
  refine ⟨fun i j g h b c h1 h2 _ _ _ _ => by rw [(key h1).1, (key h2).1], fun i g h => by rw [(key h).2]; exact hlt, fun i g h => by rw [(key h).1]; exact Nat.zero_lt_one, fun i c hc => ?_, Nat.le_refl _, BelowF.refl _ _ _,
    fun _ _ h => by (cases h), fun _ _ _ _ _ _ _ _ _ h => by (cases h), fun g cs h => by rw [hg] at h; cases h⟩
  obtain ⟨rfl, rfl⟩ := one_get hc
  exact ⟨⟨b, cs.size⟩, cs, fz, rfl, hb, rfl, rfl, fun h => by cases h⟩
end
end Go.Proofs.Ytpohnmafnpnmeaa
/- Of flow: rows of instructions that came in. No condition. -/
namespace Go.Proofs.Ytpohnmafnpnmeaa
set_option maxRecDepth 100000
open Go.ChangeShapes Go.WideShapes Go.ChangeAt Go.RowKit Go.Deep
theorem cells52 : Try.prog.cellsOf 52 = 5 := by kernel_rfl
theorem gl_nil : glTab = [] := rfl
theorem isInt_of {k : IntKind} {cs : Array Value} {i : Nat} {n : Int} (h : cs.toList[i]? = some (.int k n)) : IsInt k cs i ∧ intAt cs i = n := by
  rw [Array.getElem?_toList] at h
  exact ⟨isI_of h, intAt_of h⟩
theorem wf_u8 {n : Int} (h : (Lit.int .u8 n).wf = true) : 0 ≤ n ∧ n ≤ 255 := by
  simp only [Lit.wf, Bool.and_eq_true, decide_eq_true_eq] at h
  exact h
theorem wf_u16 {n : Int} (h : (Lit.int .u16 n).wf = true) : 0 ≤ n ∧ n ≤ 65535 := by
  simp only [Lit.wf, Bool.and_eq_true, decide_eq_true_eq] at h
  exact h
theorem ins_of {H : Type} {enc : TypeId × Value → H} {W : World} {base : Nat} {held : Bool} {n : Nat} {cs : Array Value} {off i : Nat} {y : DataW H × List MemPlace}
    (h : DataW.trod enc Try.prog W base (fun _ => true) held n 52 ((cs.toList.drop (off + i * 5)).take 5) = some y) : InsAt cs (off + i * 5) ∧ (ins cs off i).In := by
  obtain ⟨n0, y0, h0⟩ := field_of Try.underlying52 h 0 rfl
  obtain ⟨n1, y1, h1⟩ := field_of Try.underlying52 h 1 rfl
  obtain ⟨n2, y2, h2⟩ := field_of Try.underlying52 h 2 rfl
  obtain ⟨n3, y3, h3⟩ := field_of Try.underlying52 h 3 rfl
  obtain ⟨n4, y4, h4⟩ := field_of Try.underlying52 h 4 rfl
  obtain ⟨m0, e0, _, w0⟩ := DataW.trod_int Try.underlying5 h0
  obtain ⟨m1, e1, _, w1⟩ := DataW.trod_int Try.underlying5 h1
  obtain ⟨m2, e2, _, w2⟩ := DataW.trod_int Try.underlying5 h2
  obtain ⟨m3, e3, _, w3⟩ := DataW.trod_int Try.underlying5 h3
  obtain ⟨m4, e4, _, w4⟩ := DataW.trod_int Try.underlying50 h4
  obtain ⟨a0, b0⟩ := isInt_of (sub_get (sub_one e0))
  obtain ⟨a1, b1⟩ := isInt_of (sub_get (sub_one e1))
  obtain ⟨a2, b2⟩ := isInt_of (sub_get (sub_one e2))
  obtain ⟨a3, b3⟩ := isInt_of (sub_get (sub_one e3))
  obtain ⟨a4, b4⟩ := isInt_of (sub_get (sub_one e4))
  refine ⟨⟨a0, a1, a2, a3, a4⟩, ?_⟩
  have w0 := wf_u8 w0
  have w1 := wf_u8 w1
  have w2 := wf_u8 w2
  have w3 := wf_u8 w3
  have w4 := wf_u16 w4
  rw [← b0] at w0
  rw [← b1] at w1
  rw [← b2] at w2
  rw [← b3] at w3
  rw [← b4] at w4
  exact ⟨w0, w1, w2, w3, w4⟩
def InsIn (W : World) (v : Value) : Prop :=
  (∃ a c, v = .slice a 0 c) ∨ ∃ b off n cap cs ty fz, v = .slice (some ⟨b, off, none⟩) n cap ∧ n ≠ 0 ∧ n ≤ cap ∧ W.heap[b]? = some (.cells cs ty fz) ∧ (n ≤ 200 → InsOk cs off n)
theorem ins_in {H : Type} {enc : TypeId × Value → H} {W : World} {base base' : Nat} {fuel : Nat} {v : Value} {held : Bool} {x : DataW H × List MemPlace}
    (hok : Value.okWide Try.prog W .any base 22 v) (h : DataW.trod enc Try.prog W base' (fun _ => true) held fuel 22 [v] = some x) : InsIn W v := by
  obtain ⟨A, len, cap, rfl⟩ := okWide_slice Try.underlying22 hok
  rcases slice_cells Try.underlying22 cells52 hok h with ⟨rfl, rfl, rfl⟩ | ⟨b, off, cs, ty, fz, rfl, hl, _, ho, hj⟩
  · exact .inl ⟨_, _, rfl⟩
  · by_cases h0 : len = 0
    · subst h0; exact .inl ⟨_, _, rfl⟩
    · refine .inr ⟨b, off, len, cap, cs, ty, fz, rfl, h0, hl, ho, fun hn => ⟨by omega, fun i hi => ?_⟩⟩
      obtain ⟨n, y, hy⟩ := hj i hi
      exact ins_of hy
theorem boolR_true {R : Ren} {s : SV} {m : SMem} {v : Value} (h : boolR true s m) (hv : s.ok R v) : v = .bool true := by
  unfold boolR at h
  split at h
  · have hv : v = .bool _ := hv
    rw [hv, h]
  · exact h.elim
theorem calls_of {W : World} {g : FuncId} {fn : Func} {c : Code} {l : List SV} {args : Array Value} {m : SMem} {R : Ren} (h1 : Try.prog.funcs[g]? = some fn) (h2 : fn.body = some c) (hg : Good Try.prog (boolR true) m.next [callFr g fn.ntmps l c] m) (hl : All2 (SV.ok R) l args.toList) (hR : Rel W.heap.size (fun _ => False) W R m W) :
    Calls Try.prog g args W fun e w' => e = .returned (.bool true) ∧ Below W.heap.size W w' := by
  have h := answers_of_good h1 h2 hg hl hR
  unfold Answers at h
  refine h.mono ?_
  rintro e w' ⟨v, rfl, s', m', R', hr, _, hR', hv⟩
  exact ⟨by rw [boolR_true hr hv], below_of hR'.fr⟩
def OnlyRead (m : SMem) : Prop := m.xs = [] ∧ ∀ i b, getB m.bl i = some b → b.wr = false
theorem rel_add {W : World} {R : Ren} {m : SMem} (hR : Rel W.heap.size (fun _ => False) W R m W) (ho : OnlyRead m) {i b : Nat} {cs : Array Value} {ty : TypeId} {fz : Nat × Nat} (hi : i < m.next) (hn : R i = none) (hb : W.heap[b]? = some (.cells cs ty fz)) :
    Rel W.heap.size (fun _ => False) W (fun j => if j = i then some ⟨b, cs.size⟩ else R j) ⟨m.next, m.bl.set i (some ⟨.raw cs, ty, false⟩), m.xs⟩ W ∧ OnlyRead ⟨m.next, m.bl.set i (some ⟨.raw cs, ty, false⟩), m.xs⟩ := by
  have ho' : OnlyRead ⟨m.next, m.bl.set i (some ⟨.raw cs, ty, false⟩), m.xs⟩ := by
    refine ⟨ho.1, fun j c hc => ?_⟩
    have hc : (m.bl.set i (some ⟨.raw cs, ty, false⟩)).get j = some c := hc
    rw [Tr.get_set] at hc
    split at hc
    · cases hc; rfl
    · exact ho.2 j c hc
  have hlt : b < W.heap.size := (Array.getElem?_eq_some_iff.1 hb).1
  refine ⟨⟨fun j k g h x y h1 h2 h3 h4 h5 h6 => ?_, fun j g h => ?_, fun j g h => ?_, fun j c hc => ?_, Nat.le_refl _, BelowF.refl _ _ _, fun j x hx => ?_, fun j k g h x y _ _ _ h4 => ?_, fun g cs hg => ?_⟩, ho'⟩
  · have e1 := ho'.2 _ _ h4
    have e2 := ho'.2 _ _ h5
    rw [e1, e2] at h6
    rcases h6 with h6 | h6 <;> cases h6
  · split at h
    · cases h; exact hlt
    · exact hR.lt j g h
  · split at h
    · rename_i e; rw [e]; exact hi
    · exact hR.nx j g h
  · have hc : (m.bl.set i (some ⟨.raw cs, ty, false⟩)).get j = some c := hc
    rw [Tr.get_set] at hc
    split at hc
    · rename_i e
      cases hc
      exact ⟨⟨b, cs.size⟩, cs, fz, by simp [e], hb, rfl, rfl, fun h => by cases h⟩
    · rename_i e
      obtain ⟨g, cs', fz', k1, k2, k3, k4, k5⟩ := hR.blk j c hc
      refine ⟨g, cs', fz', by simp [e, k1], k2, k3, SA.monoM (fun l g hl => ?_) k4, k5⟩
      by_cases el : l = i
      · rw [el, hn] at hl; cases hl
      · rw [if_neg el]; exact hl
  · have hx : getX m.xs j = some x := hx
    rw [ho.1] at hx; cases hx
  · have h4 : getX m.xs j = some x := h4
    rw [ho.1] at h4; cases h4
  · exact hR.gl g cs hg
theorem onlyRead_nil (n : Nat) : OnlyRead ⟨n, .nil, []⟩ := ⟨rfl, fun i b h => by
  have h : (Tr.nil : Tr SBlk).get i = some b := h
  rw [Tr.get_nil] at h; cases h⟩
theorem rel_two {W : World} {b1 b2 : Nat} {cs ds : Array Value} {t1 t2 : TypeId} {f1 f2 : Nat × Nat} (h1 : W.heap[b1]? = some (.cells cs t1 f1)) (h2 : W.heap[b2]? = some (.cells ds t2 f2)) :
    Rel W.heap.size (fun _ => False) W (fun j => if j = 1 then some ⟨b2, ds.size⟩ else if j = 0 then some ⟨b1, cs.size⟩ else none) (mkM 2 [(0, ⟨.raw cs, t1, false⟩), (1, ⟨.raw ds, t2, false⟩)]) W := by
  obtain ⟨r1, o1⟩ := rel_add (rel_empty gl_nil W 2) (onlyRead_nil 2) (i := 0) (by decide) rfl h1
  obtain ⟨r2, _⟩ := rel_add r1 o1 (i := 1) (show 1 < 2 by omega) rfl h2
  exact r2
theorem cells42 : Try.prog.cellsOf 42 = 3 := by kernel_rfl
def ResIn (W : World) (v : Value) : Prop :=
  (∃ a c, v = .slice a 0 c) ∨ ∃ b off n cap cs ty fz, v = .slice (some ⟨b, off, none⟩) n cap ∧ n ≠ 0 ∧ n ≤ cap ∧ W.heap[b]? = some (.cells cs ty fz) ∧ RsOk cs off n
theorem res_of {H : Type} {enc : TypeId × Value → H} {W : World} {base : Nat} {held : Bool} {n : Nat} {cs : Array Value} {p : Nat} {y : DataW H × List MemPlace}
    (h : DataW.trod enc Try.prog W base (fun _ => true) held n 42 ((cs.toList.drop p).take 3) = some y) : IsInt .i64 cs p ∧ IsInt .u64 cs (p + 1) ∧ IsInt .u32 cs (p + 2) := by
  obtain ⟨n0, y0, h0⟩ := field_of Try.underlying42 h 0 rfl
  obtain ⟨n1, y1, h1⟩ := field_of Try.underlying42 h 1 rfl
  obtain ⟨n2, y2, h2⟩ := field_of Try.underlying42 h 2 rfl
  obtain ⟨_, e0, _, w0⟩ := DataW.trod_int Try.underlying32 h0
  obtain ⟨_, e1, _, w1⟩ := DataW.trod_int Try.underlying25 h1
  obtain ⟨_, e2, _, w2⟩ := DataW.trod_int Try.underlying40 h2
  exact ⟨(isInt_of (sub_get (sub_one e0))).1, (isInt_of (sub_get (sub_one e1))).1, (isInt_of (sub_get (sub_one e2))).1⟩
theorem res_in {H : Type} {enc : TypeId × Value → H} {W : World} {base base' : Nat} {fuel : Nat} {v : Value} {held : Bool} {x : DataW H × List MemPlace}
    (hok : Value.okWide Try.prog W .any base 23 v) (h : DataW.trod enc Try.prog W base' (fun _ => true) held fuel 23 [v] = some x) : ResIn W v := by
  obtain ⟨A, len, cap, rfl⟩ := okWide_slice Try.underlying23 hok
  rcases slice_cells Try.underlying23 cells42 hok h with ⟨rfl, rfl, rfl⟩ | ⟨b, off, cs, ty, fz, rfl, hl, _, ho, hj⟩
  · exact .inl ⟨_, _, rfl⟩
  · by_cases h0 : len = 0
    · subst h0; exact .inl ⟨_, _, rfl⟩
    · refine .inr ⟨b, off, len, cap, cs, ty, fz, rfl, h0, hl, ho, fun i hi => ?_⟩
      obtain ⟨n, y, hy⟩ := hj i hi
      exact res_of hy
end Go.Proofs.Ytpohnmafnpnmeaa
