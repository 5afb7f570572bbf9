/- Of flow: FlowSame: its rounds, with results. No condition. -/
import Derived.Test.YtpohnmafnpnmeaaMD
import Derived.Test.YtpohnmafnpnmeaaMC
import Derived.Test.YtpohnmafnpnmeaaMB
import Derived.Test.YtpohnmafnpnmeaaRows
import Derived.Test.YtpohnmafnpnmeaaE1
import Derived.ProofKit
import Derived.OpenShut
import Derived.ChangeSame
import Derived.Deep.Slices
import Derived.Deep.Fields
import Derived.ChangeMaps5
set_option linter.unusedVariables false
set_option linter.unusedSimpArgs false
namespace Go.Proofs.Ytpohnmafnpnmeaa
set_option linter.unusedSectionVars false
set_option linter.unusedVariables false
set_option linter.unusedSimpArgs false
set_option maxRecDepth 100000
theorem Fv_ok (kd : Nat) : EnvOk (Fv kd) := EnvOk.with E0_ok _ _ (conS_ok kd)
def RtOk (rc : Array Value) (ro rn : Nat) : Prop := ∀ j, j < rn → IsInt .i64 rc (ro + j * 3) ∧ IsInt .u64 rc (ro + j * 3 + 1) ∧ IsInt .u32 rc (ro + j * 3 + 2)
section
variable (off num : Nat) (cs : Array Value) (ty : TypeId) (ro rn : Nat) (rc : Array Value) (rt : TypeId) (hI : InsOk cs off num) (hM : mayV cs off num = true) (hr : RtOk rc ro rn) (hr0 : rn ≠ 0) (hr1 : rn ≤ 60)
include hI hM hr hr0 hr1
theorem cx_v2 (Q : Int → Nat → Int → Int → Int → Int → Int → Int → Int → Int → Int → Array Value → Nat → Array Value → Nat → Int → Int → Int → Int → Int → Int → Int → Int → Int → Array Value → Prop) {i x : Nat} (hi : i < 300) (d2 : x < num) (hf : metB cs off num x = true) (hk : 16 < (ins cs off x).o ∧ (ins cs off x).o ≤ 38) (g0 g1 g2 g3 g4 g5 g6 g7 : Int) (H : Q i num (x : Nat) g0 g1 g2 g3 g4 g5 g6 g7 (cod cs off num) (cnt (metB cs off num) num) (trR cs off num) (cnt (metB cs off num) num) ((cnt (metB cs off num) x : Nat) : Int) g0 g1 g2 g3 g4 g5 g6 g7 (cod (trR cs off num) 0 (cnt (metB cs off num) num))) :
    VC (xv_t 2 off num cs ty ro rn rc rt i num (x : Nat) g0 g1 g2 g3 g4 g5 g6 g7 (cod cs off num) (cnt (metB cs off num) num) (trR cs off num) (cnt (metB cs off num) num) ((cnt (metB cs off num) x : Nat) : Int) g0 g1 g2 g3 g4 g5 g6 g7 (cod (trR cs off num) 0 (cnt (metB cs off num) num))) (boolR true) (xv_x 2 off num cs ty ro rn rc rt i num (x : Nat) g0 g1 g2 g3 g4 g5 g6 g7 (cod cs off num) (cnt (metB cs off num) num) (trR cs off num) (cnt (metB cs off num) num) ((cnt (metB cs off num) x : Nat) : Int) g0 g1 g2 g3 g4 g5 g6 g7 (cod (trR cs off num) 0 (cnt (metB cs off num) num)) Q) := by
  refine VC.mk ?_
  rw [xv2_vc]
  obtain ⟨n64, hle, hpx, e2, hp, e3, w6, w7, i1, q1⟩ := facs hI hM d2 hf
  obtain ⟨t1, q2⟩ := text_b hI hM d2 hf
  obtain ⟨c1, c2, k1, k2, k3, k4, k5, ha, hb, hc, hn⟩ := code_a hI hM d2
  obtain ⟨b1, b2, l1, l2, l3, l4, l5⟩ := code_b hI hM d2 hf
  have e1 : decide ((i : Int) < 300) = true := decide_eq_true (by omega)
  have f0 : ((ins cs off x).o == 0) = false := by rw [beq_eq_false_iff_ne]; omega
  have hkk : (16 < (ins cs off x).o ∧ (ins cs off x).o ≤ 38) = True := eq_true hk
  have tn : (trimI (metB cs off num) (ins cs off x)).n = (ins cs off x).n := trim_n hI hM (by omega)
  simp only [e1, e2, e3, w6, w7, i1, t1, q1, q2, c1, c2, k1, k2, k3, k4, k5, b1, b2, l1, l2, l3, l4, l5, ha, hb, hc, Int.toNat_natCast, f0, hkk, tn, Bool.not_true, Bool.not_false, Bool.true_eq_false, Bool.false_eq_true, false_implies, true_implies, true_and, and_true, beq_self_eq_true, Bool.and_self, eq_self, decide_true, decide_false, luv_eq, lcv_eq, lsv_eq]
  all_goals (try (repeat' first | exact H | exact True.intro | exact rfl | apply And.intro | (intro _) | omega))
theorem cx_v3 (Q : Int → Nat → Int → Int → Int → Int → Int → Int → Int → Int → Int → Array Value → Nat → Array Value → Nat → Int → Int → Int → Int → Int → Int → Int → Int → Int → Array Value → Prop) {i x : Nat} (hi : i < 300) (d2 : x < num) (hf : metB cs off num x = true) (hk : (ins cs off x).o = 1) (g0 g1 g2 g3 g4 g5 g6 g7 : Int) (H : Q i num (x : Nat) g0 g1 g2 g3 g4 g5 g6 g7 (cod cs off num) (cnt (metB cs off num) num) (trR cs off num) (cnt (metB cs off num) num) ((cnt (metB cs off num) x : Nat) : Int) g0 g1 g2 g3 g4 g5 g6 g7 (cod (trR cs off num) 0 (cnt (metB cs off num) num))) :
    VC (xv_t 3 off num cs ty ro rn rc rt i num (x : Nat) g0 g1 g2 g3 g4 g5 g6 g7 (cod cs off num) (cnt (metB cs off num) num) (trR cs off num) (cnt (metB cs off num) num) ((cnt (metB cs off num) x : Nat) : Int) g0 g1 g2 g3 g4 g5 g6 g7 (cod (trR cs off num) 0 (cnt (metB cs off num) num))) (boolR true) (xv_x 3 off num cs ty ro rn rc rt i num (x : Nat) g0 g1 g2 g3 g4 g5 g6 g7 (cod cs off num) (cnt (metB cs off num) num) (trR cs off num) (cnt (metB cs off num) num) ((cnt (metB cs off num) x : Nat) : Int) g0 g1 g2 g3 g4 g5 g6 g7 (cod (trR cs off num) 0 (cnt (metB cs off num) num)) Q) := by
  refine VC.mk ?_
  rw [xv3_vc]
  obtain ⟨n64, hle, hpx, e2, hp, e3, w6, w7, i1, q1⟩ := facs hI hM d2 hf
  obtain ⟨t1, q2⟩ := text_b hI hM d2 hf
  obtain ⟨c1, c2, k1, k2, k3, k4, k5, ha, hb, hc, hn⟩ := code_a hI hM d2
  obtain ⟨b1, b2, l1, l2, l3, l4, l5⟩ := code_b hI hM d2 hf
  have e1 : decide ((i : Int) < 300) = true := decide_eq_true (by omega)
  have f0 : ((ins cs off x).o == 0) = false := by rw [beq_eq_false_iff_ne]; omega
  have hkk : ((ins cs off x).o = 1 ∧ 0 < (ins cs off x).o ∧ (ins cs off x).o ≤ 6) = True := eq_true ⟨hk, by omega, by omega⟩
  have tn : (trimI (metB cs off num) (ins cs off x)).n = (ins cs off x).n := trim_n hI hM (by omega)
  simp only [e1, e2, e3, w6, w7, i1, t1, q1, q2, c1, c2, k1, k2, k3, k4, k5, b1, b2, l1, l2, l3, l4, l5, ha, hb, hc, Int.toNat_natCast, f0, hkk, tn, Bool.not_true, Bool.not_false, Bool.true_eq_false, Bool.false_eq_true, false_implies, true_implies, true_and, and_true, beq_self_eq_true, Bool.and_self, eq_self, decide_true, decide_false, luv_eq, lcv_eq, lsv_eq]
  all_goals (try (repeat' first | exact H | exact True.intro | exact rfl | apply And.intro | (intro _) | omega))
theorem cx_v4 (Q : Int → Nat → Int → Int → Int → Int → Int → Int → Int → Int → Int → Array Value → Nat → Array Value → Nat → Int → Int → Int → Int → Int → Int → Int → Int → Int → Array Value → Prop) {i x : Nat} (hi : i < 300) (d2 : x < num) (hf : metB cs off num x = true) (hk : (ins cs off x).o = 2) (g0 g1 g2 g3 g4 g5 g6 g7 : Int) (H : Q i num (x : Nat) g0 g1 g2 g3 g4 g5 g6 g7 (cod cs off num) (cnt (metB cs off num) num) (trR cs off num) (cnt (metB cs off num) num) ((cnt (metB cs off num) x : Nat) : Int) g0 g1 g2 g3 g4 g5 g6 g7 (cod (trR cs off num) 0 (cnt (metB cs off num) num))) :
    VC (xv_t 4 off num cs ty ro rn rc rt i num (x : Nat) g0 g1 g2 g3 g4 g5 g6 g7 (cod cs off num) (cnt (metB cs off num) num) (trR cs off num) (cnt (metB cs off num) num) ((cnt (metB cs off num) x : Nat) : Int) g0 g1 g2 g3 g4 g5 g6 g7 (cod (trR cs off num) 0 (cnt (metB cs off num) num))) (boolR true) (xv_x 4 off num cs ty ro rn rc rt i num (x : Nat) g0 g1 g2 g3 g4 g5 g6 g7 (cod cs off num) (cnt (metB cs off num) num) (trR cs off num) (cnt (metB cs off num) num) ((cnt (metB cs off num) x : Nat) : Int) g0 g1 g2 g3 g4 g5 g6 g7 (cod (trR cs off num) 0 (cnt (metB cs off num) num)) Q) := by
  refine VC.mk ?_
  rw [xv4_vc]
  obtain ⟨n64, hle, hpx, e2, hp, e3, w6, w7, i1, q1⟩ := facs hI hM d2 hf
  obtain ⟨t1, q2⟩ := text_b hI hM d2 hf
  obtain ⟨c1, c2, k1, k2, k3, k4, k5, ha, hb, hc, hn⟩ := code_a hI hM d2
  obtain ⟨b1, b2, l1, l2, l3, l4, l5⟩ := code_b hI hM d2 hf
  have e1 : decide ((i : Int) < 300) = true := decide_eq_true (by omega)
  have f0 : ((ins cs off x).o == 0) = false := by rw [beq_eq_false_iff_ne]; omega
  have hkk : ((ins cs off x).o = 2 ∧ 0 < (ins cs off x).o ∧ (ins cs off x).o ≤ 6) = True := eq_true ⟨hk, by omega, by omega⟩
  have tn : (trimI (metB cs off num) (ins cs off x)).n = (ins cs off x).n := trim_n hI hM (by omega)
  simp only [e1, e2, e3, w6, w7, i1, t1, q1, q2, c1, c2, k1, k2, k3, k4, k5, b1, b2, l1, l2, l3, l4, l5, ha, hb, hc, Int.toNat_natCast, f0, hkk, tn, Bool.not_true, Bool.not_false, Bool.true_eq_false, Bool.false_eq_true, false_implies, true_implies, true_and, and_true, beq_self_eq_true, Bool.and_self, eq_self, decide_true, decide_false, luv_eq, lcv_eq, lsv_eq]
  all_goals (try (repeat' first | exact H | exact True.intro | exact rfl | apply And.intro | (intro _) | omega))
theorem cx_v5 (Q : Int → Nat → Int → Int → Int → Int → Int → Int → Int → Int → Int → Array Value → Nat → Array Value → Nat → Int → Int → Int → Int → Int → Int → Int → Int → Int → Array Value → Prop) {i x : Nat} (hi : i < 300) (d2 : x < num) (hf : metB cs off num x = true) (hk : (ins cs off x).o = 3) (g0 g1 g2 g3 g4 g5 g6 g7 : Int) (H : Q i num (x : Nat) g0 g1 g2 g3 g4 g5 g6 g7 (cod cs off num) (cnt (metB cs off num) num) (trR cs off num) (cnt (metB cs off num) num) ((cnt (metB cs off num) x : Nat) : Int) g0 g1 g2 g3 g4 g5 g6 g7 (cod (trR cs off num) 0 (cnt (metB cs off num) num))) :
    VC (xv_t 5 off num cs ty ro rn rc rt i num (x : Nat) g0 g1 g2 g3 g4 g5 g6 g7 (cod cs off num) (cnt (metB cs off num) num) (trR cs off num) (cnt (metB cs off num) num) ((cnt (metB cs off num) x : Nat) : Int) g0 g1 g2 g3 g4 g5 g6 g7 (cod (trR cs off num) 0 (cnt (metB cs off num) num))) (boolR true) (xv_x 5 off num cs ty ro rn rc rt i num (x : Nat) g0 g1 g2 g3 g4 g5 g6 g7 (cod cs off num) (cnt (metB cs off num) num) (trR cs off num) (cnt (metB cs off num) num) ((cnt (metB cs off num) x : Nat) : Int) g0 g1 g2 g3 g4 g5 g6 g7 (cod (trR cs off num) 0 (cnt (metB cs off num) num)) Q) := by
  refine VC.mk ?_
  rw [xv5_vc]
  obtain ⟨n64, hle, hpx, e2, hp, e3, w6, w7, i1, q1⟩ := facs hI hM d2 hf
  obtain ⟨t1, q2⟩ := text_b hI hM d2 hf
  obtain ⟨c1, c2, k1, k2, k3, k4, k5, ha, hb, hc, hn⟩ := code_a hI hM d2
  obtain ⟨b1, b2, l1, l2, l3, l4, l5⟩ := code_b hI hM d2 hf
  have e1 : decide ((i : Int) < 300) = true := decide_eq_true (by omega)
  have f0 : ((ins cs off x).o == 0) = false := by rw [beq_eq_false_iff_ne]; omega
  have hkk : ((ins cs off x).o = 3 ∧ 0 < (ins cs off x).o ∧ (ins cs off x).o ≤ 6) = True := eq_true ⟨hk, by omega, by omega⟩
  have tn : (trimI (metB cs off num) (ins cs off x)).n = (ins cs off x).n := trim_n hI hM (by omega)
  simp only [e1, e2, e3, w6, w7, i1, t1, q1, q2, c1, c2, k1, k2, k3, k4, k5, b1, b2, l1, l2, l3, l4, l5, ha, hb, hc, Int.toNat_natCast, f0, hkk, tn, Bool.not_true, Bool.not_false, Bool.true_eq_false, Bool.false_eq_true, false_implies, true_implies, true_and, and_true, beq_self_eq_true, Bool.and_self, eq_self, decide_true, decide_false, luv_eq, lcv_eq, lsv_eq]
  all_goals (try (repeat' first | exact H | exact True.intro | exact rfl | apply And.intro | (intro _) | omega))
theorem cx_v6 (Q : Int → Nat → Int → Int → Int → Int → Int → Int → Int → Int → Int → Array Value → Nat → Array Value → Nat → Int → Int → Int → Int → Int → Int → Int → Int → Int → Array Value → Prop) {i x : Nat} (hi : i < 300) (d2 : x < num) (hf : metB cs off num x = true) (hk : (ins cs off x).o = 4) (g0 g1 g2 g3 g4 g5 g6 g7 : Int) (H : Q i num (x : Nat) g0 g1 g2 g3 g4 g5 g6 g7 (cod cs off num) (cnt (metB cs off num) num) (trR cs off num) (cnt (metB cs off num) num) ((cnt (metB cs off num) x : Nat) : Int) g0 g1 g2 g3 g4 g5 g6 g7 (cod (trR cs off num) 0 (cnt (metB cs off num) num))) :
    VC (xv_t 6 off num cs ty ro rn rc rt i num (x : Nat) g0 g1 g2 g3 g4 g5 g6 g7 (cod cs off num) (cnt (metB cs off num) num) (trR cs off num) (cnt (metB cs off num) num) ((cnt (metB cs off num) x : Nat) : Int) g0 g1 g2 g3 g4 g5 g6 g7 (cod (trR cs off num) 0 (cnt (metB cs off num) num))) (boolR true) (xv_x 6 off num cs ty ro rn rc rt i num (x : Nat) g0 g1 g2 g3 g4 g5 g6 g7 (cod cs off num) (cnt (metB cs off num) num) (trR cs off num) (cnt (metB cs off num) num) ((cnt (metB cs off num) x : Nat) : Int) g0 g1 g2 g3 g4 g5 g6 g7 (cod (trR cs off num) 0 (cnt (metB cs off num) num)) Q) := by
  refine VC.mk ?_
  rw [xv6_vc]
  obtain ⟨n64, hle, hpx, e2, hp, e3, w6, w7, i1, q1⟩ := facs hI hM d2 hf
  obtain ⟨t1, q2⟩ := text_b hI hM d2 hf
  obtain ⟨c1, c2, k1, k2, k3, k4, k5, ha, hb, hc, hn⟩ := code_a hI hM d2
  obtain ⟨b1, b2, l1, l2, l3, l4, l5⟩ := code_b hI hM d2 hf
  have e1 : decide ((i : Int) < 300) = true := decide_eq_true (by omega)
  have f0 : ((ins cs off x).o == 0) = false := by rw [beq_eq_false_iff_ne]; omega
  have hkk : ((ins cs off x).o = 4 ∧ 0 < (ins cs off x).o ∧ (ins cs off x).o ≤ 6) = True := eq_true ⟨hk, by omega, by omega⟩
  have tn : (trimI (metB cs off num) (ins cs off x)).n = (ins cs off x).n := trim_n hI hM (by omega)
  simp only [e1, e2, e3, w6, w7, i1, t1, q1, q2, c1, c2, k1, k2, k3, k4, k5, b1, b2, l1, l2, l3, l4, l5, ha, hb, hc, Int.toNat_natCast, f0, hkk, tn, Bool.not_true, Bool.not_false, Bool.true_eq_false, Bool.false_eq_true, false_implies, true_implies, true_and, and_true, beq_self_eq_true, Bool.and_self, eq_self, decide_true, decide_false, luv_eq, lcv_eq, lsv_eq]
  all_goals (try (repeat' first | exact H | exact True.intro | exact rfl | apply And.intro | (intro _) | omega))
theorem cx_v7 (Q : Int → Nat → Int → Int → Int → Int → Int → Int → Int → Int → Int → Array Value → Nat → Array Value → Nat → Int → Int → Int → Int → Int → Int → Int → Int → Int → Array Value → Prop) {i x : Nat} (hi : i < 300) (d2 : x < num) (hf : metB cs off num x = true) (hk : (ins cs off x).o = 5) (g0 g1 g2 g3 g4 g5 g6 g7 : Int) (H : Q i num (x : Nat) g0 g1 g2 g3 g4 g5 g6 g7 (cod cs off num) (cnt (metB cs off num) num) (trR cs off num) (cnt (metB cs off num) num) ((cnt (metB cs off num) x : Nat) : Int) g0 g1 g2 g3 g4 g5 g6 g7 (cod (trR cs off num) 0 (cnt (metB cs off num) num))) :
    VC (xv_t 7 off num cs ty ro rn rc rt i num (x : Nat) g0 g1 g2 g3 g4 g5 g6 g7 (cod cs off num) (cnt (metB cs off num) num) (trR cs off num) (cnt (metB cs off num) num) ((cnt (metB cs off num) x : Nat) : Int) g0 g1 g2 g3 g4 g5 g6 g7 (cod (trR cs off num) 0 (cnt (metB cs off num) num))) (boolR true) (xv_x 7 off num cs ty ro rn rc rt i num (x : Nat) g0 g1 g2 g3 g4 g5 g6 g7 (cod cs off num) (cnt (metB cs off num) num) (trR cs off num) (cnt (metB cs off num) num) ((cnt (metB cs off num) x : Nat) : Int) g0 g1 g2 g3 g4 g5 g6 g7 (cod (trR cs off num) 0 (cnt (metB cs off num) num)) Q) := by
  refine VC.mk ?_
  rw [xv7_vc]
  obtain ⟨n64, hle, hpx, e2, hp, e3, w6, w7, i1, q1⟩ := facs hI hM d2 hf
  obtain ⟨t1, q2⟩ := text_b hI hM d2 hf
  obtain ⟨c1, c2, k1, k2, k3, k4, k5, ha, hb, hc, hn⟩ := code_a hI hM d2
  obtain ⟨b1, b2, l1, l2, l3, l4, l5⟩ := code_b hI hM d2 hf
  have e1 : decide ((i : Int) < 300) = true := decide_eq_true (by omega)
  have f0 : ((ins cs off x).o == 0) = false := by rw [beq_eq_false_iff_ne]; omega
  have hkk : ((ins cs off x).o = 5 ∧ 0 < (ins cs off x).o ∧ (ins cs off x).o ≤ 6) = True := eq_true ⟨hk, by omega, by omega⟩
  simp only [e1, e2, e3, w6, w7, i1, t1, q1, q2, c1, c2, k1, k2, k3, k4, k5, b1, b2, l1, l2, l3, l4, l5, ha, hb, hc, Int.toNat_natCast, f0, hkk, Bool.not_true, Bool.not_false, Bool.true_eq_false, Bool.false_eq_true, false_implies, true_implies, true_and, and_true, beq_self_eq_true, Bool.and_self, eq_self, decide_true, decide_false, luv_eq, lcv_eq, lsv_eq]
  all_goals (try (repeat' first | exact H | exact True.intro | exact rfl | apply And.intro | (intro _) | omega))
theorem cx_v8 (Q : Int → Nat → Int → Int → Int → Int → Int → Int → Int → Int → Int → Array Value → Nat → Array Value → Nat → Int → Int → Int → Int → Int → Int → Int → Int → Int → Array Value → Prop) {i x : Nat} (hi : i < 300) (d2 : x < num) (hf : metB cs off num x = true) (hk : (ins cs off x).o = 6) (g0 g1 g2 g3 g4 g5 g6 g7 : Int) (H : Q i num (x : Nat) g0 g1 g2 g3 g4 g5 g6 g7 (cod cs off num) (cnt (metB cs off num) num) (trR cs off num) (cnt (metB cs off num) num) ((cnt (metB cs off num) x : Nat) : Int) g0 g1 g2 g3 g4 g5 g6 g7 (cod (trR cs off num) 0 (cnt (metB cs off num) num))) :
    VC (xv_t 8 off num cs ty ro rn rc rt i num (x : Nat) g0 g1 g2 g3 g4 g5 g6 g7 (cod cs off num) (cnt (metB cs off num) num) (trR cs off num) (cnt (metB cs off num) num) ((cnt (metB cs off num) x : Nat) : Int) g0 g1 g2 g3 g4 g5 g6 g7 (cod (trR cs off num) 0 (cnt (metB cs off num) num))) (boolR true) (xv_x 8 off num cs ty ro rn rc rt i num (x : Nat) g0 g1 g2 g3 g4 g5 g6 g7 (cod cs off num) (cnt (metB cs off num) num) (trR cs off num) (cnt (metB cs off num) num) ((cnt (metB cs off num) x : Nat) : Int) g0 g1 g2 g3 g4 g5 g6 g7 (cod (trR cs off num) 0 (cnt (metB cs off num) num)) Q) := by
  refine VC.mk ?_
  rw [xv8_vc]
  obtain ⟨n64, hle, hpx, e2, hp, e3, w6, w7, i1, q1⟩ := facs hI hM d2 hf
  obtain ⟨t1, q2⟩ := text_b hI hM d2 hf
  obtain ⟨c1, c2, k1, k2, k3, k4, k5, ha, hb, hc, hn⟩ := code_a hI hM d2
  obtain ⟨b1, b2, l1, l2, l3, l4, l5⟩ := code_b hI hM d2 hf
  have e1 : decide ((i : Int) < 300) = true := decide_eq_true (by omega)
  have f0 : ((ins cs off x).o == 0) = false := by rw [beq_eq_false_iff_ne]; omega
  have hkk : ((ins cs off x).o = 6 ∧ 0 < (ins cs off x).o ∧ (ins cs off x).o ≤ 6) = True := eq_true ⟨hk, by omega, by omega⟩
  simp only [e1, e2, e3, w6, w7, i1, t1, q1, q2, c1, c2, k1, k2, k3, k4, k5, b1, b2, l1, l2, l3, l4, l5, ha, hb, hc, Int.toNat_natCast, f0, hkk, Bool.not_true, Bool.not_false, Bool.true_eq_false, Bool.false_eq_true, false_implies, true_implies, true_and, and_true, beq_self_eq_true, Bool.and_self, eq_self, decide_true, decide_false, luv_eq, lcv_eq, lsv_eq]
  all_goals (try (repeat' first | exact H | exact True.intro | exact rfl | apply And.intro | (intro _) | omega))
theorem cx_v0 (Q : Int → Nat → Int → Int → Int → Int → Int → Int → Int → Int → Int → Array Value → Nat → Array Value → Nat → Int → Int → Int → Int → Int → Int → Int → Int → Int → Array Value → Prop) {i x : Nat} (h : 300 ≤ i ∨ num ≤ x) (hx : x ≤ num) (g0 g1 g2 g3 g4 g5 g6 g7 : Int) :
    VC (xv_t 0 off num cs ty ro rn rc rt i num (x : Nat) g0 g1 g2 g3 g4 g5 g6 g7 (cod cs off num) (cnt (metB cs off num) num) (trR cs off num) (cnt (metB cs off num) num) ((cnt (metB cs off num) x : Nat) : Int) g0 g1 g2 g3 g4 g5 g6 g7 (cod (trR cs off num) 0 (cnt (metB cs off num) num))) (boolR true) (xv_x 0 off num cs ty ro rn rc rt i num (x : Nat) g0 g1 g2 g3 g4 g5 g6 g7 (cod cs off num) (cnt (metB cs off num) num) (trR cs off num) (cnt (metB cs off num) num) ((cnt (metB cs off num) x : Nat) : Int) g0 g1 g2 g3 g4 g5 g6 g7 (cod (trR cs off num) 0 (cnt (metB cs off num) num)) Q) := by
  refine VC.mk ?_
  rw [xv0_vc]
  by_cases hi : i < 300
  · obtain rfl : x = num := by omega
    have e1 : decide ((i : Int) < 300) = true := decide_eq_true (by omega)
    have e2 : decide ((x : Int) ≥ (x : Int)) = true := decide_eq_true (by omega)
    have e3 : decide (((cnt (metB cs off x) x : Nat) : Int) ≥ ((cnt (metB cs off x) x : Nat) : Int)) = true := decide_eq_true (by omega)
    simp only [e1, ge_iff_le, Int.le_refl, decide_true, beqT, beqF, Bool.not_true, Bool.not_false, Bool.true_eq_false, Bool.false_eq_true, false_implies, true_implies, true_and, and_true, beq_self_eq_true, Bool.and_self, eq_self, decide_true, decide_false, luv_eq, lcv_eq, lsv_eq]
    all_goals (try (repeat' first | exact True.intro | exact rfl | apply And.intro | (intro _) | omega))
  · have e1 : decide ((i : Int) < 300) = false := decide_eq_false (by omega)
    simp only [e1, Bool.not_true, Bool.not_false, Bool.true_eq_false, Bool.false_eq_true, false_implies, true_implies, true_and, and_true, beq_self_eq_true, Bool.and_self, eq_self, decide_true, decide_false, luv_eq, lcv_eq, lsv_eq]
theorem cx_v1 (Q : Int → Nat → Int → Int → Int → Int → Int → Int → Int → Int → Int → Array Value → Nat → Array Value → Nat → Int → Int → Int → Int → Int → Int → Int → Int → Int → Array Value → Prop) {i x : Nat} (hi : i < 300) (d2 : x < num) (hf : metB cs off num x = true) (hk : (ins cs off x).o = 0) (g0 g1 g2 g3 g4 g5 g6 g7 : Int) :
    VC (xv_t 1 off num cs ty ro rn rc rt i num (x : Nat) g0 g1 g2 g3 g4 g5 g6 g7 (cod cs off num) (cnt (metB cs off num) num) (trR cs off num) (cnt (metB cs off num) num) ((cnt (metB cs off num) x : Nat) : Int) g0 g1 g2 g3 g4 g5 g6 g7 (cod (trR cs off num) 0 (cnt (metB cs off num) num))) (boolR true) (xv_x 1 off num cs ty ro rn rc rt i num (x : Nat) g0 g1 g2 g3 g4 g5 g6 g7 (cod cs off num) (cnt (metB cs off num) num) (trR cs off num) (cnt (metB cs off num) num) ((cnt (metB cs off num) x : Nat) : Int) g0 g1 g2 g3 g4 g5 g6 g7 (cod (trR cs off num) 0 (cnt (metB cs off num) num)) Q) := by
  refine VC.mk ?_
  rw [xv1_vc]
  obtain ⟨n64, hle, hpx, e2, hp, e3, w6, w7, i1, q1⟩ := facs hI hM d2 hf
  obtain ⟨t1, q2⟩ := text_b hI hM d2 hf
  obtain ⟨c1, c2, k1, k2, k3, k4, k5, ha, hb, hc, hn⟩ := code_a hI hM d2
  obtain ⟨b1, b2, l1, l2, l3, l4, l5⟩ := code_b hI hM d2 hf
  have e1 : decide ((i : Int) < 300) = true := decide_eq_true (by omega)
  have f0 : ((ins cs off x).o == 0) = true := by rw [beq_iff_eq]; omega
  have hkk : ((ins cs off x).o = 0) = True := eq_true hk
  simp only [e1, e2, e3, w6, w7, i1, t1, q1, q2, c1, c2, k1, k2, k3, k4, k5, b1, b2, l1, l2, l3, l4, l5, ha, hb, hc, Int.toNat_natCast, f0, hkk, Bool.not_true, Bool.not_false, Bool.true_eq_false, Bool.false_eq_true, false_implies, true_implies, true_and, and_true, beq_self_eq_true, Bool.and_self, eq_self, decide_true, decide_false, luv_eq, lcv_eq, lsv_eq]
  all_goals (try (repeat' first | exact True.intro | exact rfl | apply And.intro | (intro _) | omega))
theorem cy_v2 (Q : Int → Nat → Int → Int → Int → Int → Int → Int → Int → Int → Int → Array Value → Nat → Array Value → Nat → Int → Int → Int → Int → Int → Int → Int → Int → Int → Array Value → Prop) {i x : Nat} (hi : i < 300) (d2 : x < num) (hf : metB cs off num x = true) (hk : 16 < (ins cs off x).o ∧ (ins cs off x).o ≤ 38) (g0 g1 g2 g3 g4 g5 g6 g7 : Int) (H : ∀ (y : Nat) (h0 h1 h2 h3 h4 h5 h6 h7 : Int), y ∈ toL cs off num x → Q (i + 1 : Nat) num (y : Nat) h0 h1 h2 h3 h4 h5 h6 h7 (cod cs off num) (cnt (metB cs off num) num) (trR cs off num) (cnt (metB cs off num) num) ((cnt (metB cs off num) y : Nat) : Int) h0 h1 h2 h3 h4 h5 h6 h7 (cod (trR cs off num) 0 (cnt (metB cs off num) num))) :
    VC (yv_t 2 off num cs ty ro rn rc rt i num (x : Nat) g0 g1 g2 g3 g4 g5 g6 g7 (cod cs off num) (cnt (metB cs off num) num) (trR cs off num) (cnt (metB cs off num) num) ((cnt (metB cs off num) x : Nat) : Int) g0 g1 g2 g3 g4 g5 g6 g7 (cod (trR cs off num) 0 (cnt (metB cs off num) num))) (boolR true) (yv_x 2 off num cs ty ro rn rc rt i num (x : Nat) g0 g1 g2 g3 g4 g5 g6 g7 (cod cs off num) (cnt (metB cs off num) num) (trR cs off num) (cnt (metB cs off num) num) ((cnt (metB cs off num) x : Nat) : Int) g0 g1 g2 g3 g4 g5 g6 g7 (cod (trR cs off num) 0 (cnt (metB cs off num) num)) (fun i' k' nx' h0 h1 h2 h3 h4 h5 h6 h7 row' tk' ts' bk' ny' j0 j1 j2 j3 j4 j5 j6 j7 bow' => VC (zv_t 2 off num cs ty ro rn rc rt i' k' nx' h0 h1 h2 h3 h4 h5 h6 h7 row' tk' ts' bk' ny' j0 j1 j2 j3 j4 j5 j6 j7 bow') (boolR true) (zv_x 2 off num cs ty ro rn rc rt i' k' nx' h0 h1 h2 h3 h4 h5 h6 h7 row' tk' ts' bk' ny' j0 j1 j2 j3 j4 j5 j6 j7 bow' Q))) := by
  refine VC.mk ?_
  rw [yv2_vc]
  obtain ⟨n64, hle, hpx, e2, hp, e3, w6, w7, i1, q1⟩ := facs hI hM d2 hf
  obtain ⟨t1, q2⟩ := text_b hI hM d2 hf
  obtain ⟨c1, c2, k1, k2, k3, k4, k5, ha, hb, hc, hn⟩ := code_a hI hM d2
  obtain ⟨b1, b2, l1, l2, l3, l4, l5⟩ := code_b hI hM d2 hf
  obtain ⟨cx, cy, s1, s2, s3, r1, r2, r3, s4, s5, w8, w9, xa, pa⟩ := facz hI hM d2 hf ha
  have ia : ari BinOp.add IntKind.i64 (i : Int) 1 = ((i + 1 : Nat) : Int) := i64_add1 (by omega)
  have er0 : ((rn : Int) == 0) = false := by rw [beq_eq_false_iff_ne]; omega
  have er1 : ((rn : Int) ≠ 0) = True := eq_true (by omega)
  have erm : ari BinOp.rem IntKind.i64 (i : Int) (rn : Int) = ((i % rn : Nat) : Int) := remN (by omega) (by omega)
  have hlt : i % rn < rn := Nat.mod_lt _ (by omega)
  have er2 : (0 : Int) ≤ ((i % rn : Nat) : Int) ∧ ((i % rn : Nat) : Int) < (rn : Int) := by omega
  obtain ⟨v1, v2, v3⟩ := hr _ hlt
  have hkk : (16 < (ins cs off x).o ∧ (ins cs off x).o ≤ 38) = True := eq_true hk
  have zn : 0 + num = num := Nat.zero_add _
  have zN : 0 + (cnt (metB cs off num) num) = (cnt (metB cs off num) num) := Nat.zero_add _
  have tn : (trimI (metB cs off num) (ins cs off x)).n = (ins cs off x).n := trim_n hI hM (by omega)
  have H1 := H (x + 1)
  have H1 := fun h0 h1 h2 h3 h4 h5 h6 h7 => H1 h0 h1 h2 h3 h4 h5 h6 h7 (to_next hI hM d2 (by omega) (by omega))
  · simp only [e2, e3, w6, w7, i1, t1, q1, q2, c1, c2, k1, k2, k3, k4, k5, b1, b2, l1, l2, l3, l4, l5, ha, hb, hc, Int.toNat_natCast, hkk, tn, er0, er1, erm, er2, v1, v2, v3, cx, cy, s1, s2, s3, r1, r2, r3, s4, s5, w8, w9, ia, xa, pa, zn, zN, Bool.not_true, Bool.not_false, Bool.true_eq_false, Bool.false_eq_true, false_implies, true_implies, true_and, and_true, beq_self_eq_true, Bool.and_self, eq_self, decide_true, decide_false, luv_eq, lcv_eq, lsv_eq, ne_eq, not_false_eq_true, lvv_eq]
    simp only [VC_eq, zv2_vc, e2, e3, w6, w7, i1, t1, q1, q2, c1, c2, k1, k2, k3, k4, k5, b1, b2, l1, l2, l3, l4, l5, ha, hb, hc, Int.toNat_natCast, hkk, tn, er0, er1, erm, er2, v1, v2, v3, cx, cy, s1, s2, s3, r1, r2, r3, s4, s5, w8, w9, ia, xa, pa, zn, zN, Bool.not_true, Bool.not_false, Bool.true_eq_false, Bool.false_eq_true, false_implies, true_implies, true_and, and_true, beq_self_eq_true, Bool.and_self, eq_self, decide_true, decide_false, luv_eq, lcv_eq, lsv_eq, ne_eq, not_false_eq_true, lvv_eq]
    all_goals (try (repeat' first | exact H1 _ _ _ _ _ _ _ _ | exact True.intro | exact rfl | apply And.intro | (intro _) | omega))
theorem cy_v3 (Q : Int → Nat → Int → Int → Int → Int → Int → Int → Int → Int → Int → Array Value → Nat → Array Value → Nat → Int → Int → Int → Int → Int → Int → Int → Int → Int → Array Value → Prop) {i x : Nat} (hi : i < 300) (d2 : x < num) (hf : metB cs off num x = true) (hk : (ins cs off x).o = 1) (g0 g1 g2 g3 g4 g5 g6 g7 : Int) (H : ∀ (y : Nat) (h0 h1 h2 h3 h4 h5 h6 h7 : Int), y ∈ toL cs off num x → Q (i + 1 : Nat) num (y : Nat) h0 h1 h2 h3 h4 h5 h6 h7 (cod cs off num) (cnt (metB cs off num) num) (trR cs off num) (cnt (metB cs off num) num) ((cnt (metB cs off num) y : Nat) : Int) h0 h1 h2 h3 h4 h5 h6 h7 (cod (trR cs off num) 0 (cnt (metB cs off num) num))) :
    VC (yv_t 3 off num cs ty ro rn rc rt i num (x : Nat) g0 g1 g2 g3 g4 g5 g6 g7 (cod cs off num) (cnt (metB cs off num) num) (trR cs off num) (cnt (metB cs off num) num) ((cnt (metB cs off num) x : Nat) : Int) g0 g1 g2 g3 g4 g5 g6 g7 (cod (trR cs off num) 0 (cnt (metB cs off num) num))) (boolR true) (yv_x 3 off num cs ty ro rn rc rt i num (x : Nat) g0 g1 g2 g3 g4 g5 g6 g7 (cod cs off num) (cnt (metB cs off num) num) (trR cs off num) (cnt (metB cs off num) num) ((cnt (metB cs off num) x : Nat) : Int) g0 g1 g2 g3 g4 g5 g6 g7 (cod (trR cs off num) 0 (cnt (metB cs off num) num)) (fun i' k' nx' h0 h1 h2 h3 h4 h5 h6 h7 row' tk' ts' bk' ny' j0 j1 j2 j3 j4 j5 j6 j7 bow' => VC (zv_t 3 off num cs ty ro rn rc rt i' k' nx' h0 h1 h2 h3 h4 h5 h6 h7 row' tk' ts' bk' ny' j0 j1 j2 j3 j4 j5 j6 j7 bow') (boolR true) (zv_x 3 off num cs ty ro rn rc rt i' k' nx' h0 h1 h2 h3 h4 h5 h6 h7 row' tk' ts' bk' ny' j0 j1 j2 j3 j4 j5 j6 j7 bow' Q))) := by
  refine VC.mk ?_
  rw [yv3_vc]
  obtain ⟨n64, hle, hpx, e2, hp, e3, w6, w7, i1, q1⟩ := facs hI hM d2 hf
  obtain ⟨t1, q2⟩ := text_b hI hM d2 hf
  obtain ⟨c1, c2, k1, k2, k3, k4, k5, ha, hb, hc, hn⟩ := code_a hI hM d2
  obtain ⟨b1, b2, l1, l2, l3, l4, l5⟩ := code_b hI hM d2 hf
  obtain ⟨cx, cy, s1, s2, s3, r1, r2, r3, s4, s5, w8, w9, xa, pa⟩ := facz hI hM d2 hf ha
  have ia : ari BinOp.add IntKind.i64 (i : Int) 1 = ((i + 1 : Nat) : Int) := i64_add1 (by omega)
  have er0 : ((rn : Int) == 0) = false := by rw [beq_eq_false_iff_ne]; omega
  have er1 : ((rn : Int) ≠ 0) = True := eq_true (by omega)
  have erm : ari BinOp.rem IntKind.i64 (i : Int) (rn : Int) = ((i % rn : Nat) : Int) := remN (by omega) (by omega)
  have hlt : i % rn < rn := Nat.mod_lt _ (by omega)
  have er2 : (0 : Int) ≤ ((i % rn : Nat) : Int) ∧ ((i % rn : Nat) : Int) < (rn : Int) := by omega
  obtain ⟨v1, v2, v3⟩ := hr _ hlt
  have hkk : ((ins cs off x).o = 1 ∧ 0 < (ins cs off x).o ∧ (ins cs off x).o ≤ 6) = True := eq_true ⟨hk, by omega, by omega⟩
  have zn : 0 + num = num := Nat.zero_add _
  have zN : 0 + (cnt (metB cs off num) num) = (cnt (metB cs off num) num) := Nat.zero_add _
  have tn : (trimI (metB cs off num) (ins cs off x)).n = (ins cs off x).n := trim_n hI hM (by omega)
  have H1 := H (x + 1)
  have H1 := fun h0 h1 h2 h3 h4 h5 h6 h7 => H1 h0 h1 h2 h3 h4 h5 h6 h7 (to_next hI hM d2 (by omega) (by omega))
  · simp only [e2, e3, w6, w7, i1, t1, q1, q2, c1, c2, k1, k2, k3, k4, k5, b1, b2, l1, l2, l3, l4, l5, ha, hb, hc, Int.toNat_natCast, hkk, tn, er0, er1, erm, er2, v1, v2, v3, cx, cy, s1, s2, s3, r1, r2, r3, s4, s5, w8, w9, ia, xa, pa, zn, zN, Bool.not_true, Bool.not_false, Bool.true_eq_false, Bool.false_eq_true, false_implies, true_implies, true_and, and_true, beq_self_eq_true, Bool.and_self, eq_self, decide_true, decide_false, luv_eq, lcv_eq, lsv_eq, ne_eq, not_false_eq_true, lvv_eq]
    simp only [VC_eq, zv3_vc, e2, e3, w6, w7, i1, t1, q1, q2, c1, c2, k1, k2, k3, k4, k5, b1, b2, l1, l2, l3, l4, l5, ha, hb, hc, Int.toNat_natCast, hkk, tn, er0, er1, erm, er2, v1, v2, v3, cx, cy, s1, s2, s3, r1, r2, r3, s4, s5, w8, w9, ia, xa, pa, zn, zN, Bool.not_true, Bool.not_false, Bool.true_eq_false, Bool.false_eq_true, false_implies, true_implies, true_and, and_true, beq_self_eq_true, Bool.and_self, eq_self, decide_true, decide_false, luv_eq, lcv_eq, lsv_eq, ne_eq, not_false_eq_true, lvv_eq]
    all_goals (try (repeat' first | exact H1 _ _ _ _ _ _ _ _ | exact True.intro | exact rfl | apply And.intro | (intro _) | omega))
theorem cy_v4 (Q : Int → Nat → Int → Int → Int → Int → Int → Int → Int → Int → Int → Array Value → Nat → Array Value → Nat → Int → Int → Int → Int → Int → Int → Int → Int → Int → Array Value → Prop) {i x : Nat} (hi : i < 300) (d2 : x < num) (hf : metB cs off num x = true) (hk : (ins cs off x).o = 2) (g0 g1 g2 g3 g4 g5 g6 g7 : Int) (H : ∀ (y : Nat) (h0 h1 h2 h3 h4 h5 h6 h7 : Int), y ∈ toL cs off num x → Q (i + 1 : Nat) num (y : Nat) h0 h1 h2 h3 h4 h5 h6 h7 (cod cs off num) (cnt (metB cs off num) num) (trR cs off num) (cnt (metB cs off num) num) ((cnt (metB cs off num) y : Nat) : Int) h0 h1 h2 h3 h4 h5 h6 h7 (cod (trR cs off num) 0 (cnt (metB cs off num) num))) :
    VC (yv_t 4 off num cs ty ro rn rc rt i num (x : Nat) g0 g1 g2 g3 g4 g5 g6 g7 (cod cs off num) (cnt (metB cs off num) num) (trR cs off num) (cnt (metB cs off num) num) ((cnt (metB cs off num) x : Nat) : Int) g0 g1 g2 g3 g4 g5 g6 g7 (cod (trR cs off num) 0 (cnt (metB cs off num) num))) (boolR true) (yv_x 4 off num cs ty ro rn rc rt i num (x : Nat) g0 g1 g2 g3 g4 g5 g6 g7 (cod cs off num) (cnt (metB cs off num) num) (trR cs off num) (cnt (metB cs off num) num) ((cnt (metB cs off num) x : Nat) : Int) g0 g1 g2 g3 g4 g5 g6 g7 (cod (trR cs off num) 0 (cnt (metB cs off num) num)) (fun i' k' nx' h0 h1 h2 h3 h4 h5 h6 h7 row' tk' ts' bk' ny' j0 j1 j2 j3 j4 j5 j6 j7 bow' => VC (zv_t 4 off num cs ty ro rn rc rt i' k' nx' h0 h1 h2 h3 h4 h5 h6 h7 row' tk' ts' bk' ny' j0 j1 j2 j3 j4 j5 j6 j7 bow') (boolR true) (zv_x 4 off num cs ty ro rn rc rt i' k' nx' h0 h1 h2 h3 h4 h5 h6 h7 row' tk' ts' bk' ny' j0 j1 j2 j3 j4 j5 j6 j7 bow' Q))) := by
  refine VC.mk ?_
  rw [yv4_vc]
  obtain ⟨n64, hle, hpx, e2, hp, e3, w6, w7, i1, q1⟩ := facs hI hM d2 hf
  obtain ⟨t1, q2⟩ := text_b hI hM d2 hf
  obtain ⟨c1, c2, k1, k2, k3, k4, k5, ha, hb, hc, hn⟩ := code_a hI hM d2
  obtain ⟨b1, b2, l1, l2, l3, l4, l5⟩ := code_b hI hM d2 hf
  obtain ⟨cx, cy, s1, s2, s3, r1, r2, r3, s4, s5, w8, w9, xa, pa⟩ := facz hI hM d2 hf ha
  have ia : ari BinOp.add IntKind.i64 (i : Int) 1 = ((i + 1 : Nat) : Int) := i64_add1 (by omega)
  have er0 : ((rn : Int) == 0) = false := by rw [beq_eq_false_iff_ne]; omega
  have er1 : ((rn : Int) ≠ 0) = True := eq_true (by omega)
  have erm : ari BinOp.rem IntKind.i64 (i : Int) (rn : Int) = ((i % rn : Nat) : Int) := remN (by omega) (by omega)
  have hlt : i % rn < rn := Nat.mod_lt _ (by omega)
  have er2 : (0 : Int) ≤ ((i % rn : Nat) : Int) ∧ ((i % rn : Nat) : Int) < (rn : Int) := by omega
  obtain ⟨v1, v2, v3⟩ := hr _ hlt
  have hkk : ((ins cs off x).o = 2 ∧ 0 < (ins cs off x).o ∧ (ins cs off x).o ≤ 6) = True := eq_true ⟨hk, by omega, by omega⟩
  have zn : 0 + num = num := Nat.zero_add _
  have zN : 0 + (cnt (metB cs off num) num) = (cnt (metB cs off num) num) := Nat.zero_add _
  have tn : (trimI (metB cs off num) (ins cs off x)).n = (ins cs off x).n := trim_n hI hM (by omega)
  have H1 := H (x + 1)
  have H1 := fun h0 h1 h2 h3 h4 h5 h6 h7 => H1 h0 h1 h2 h3 h4 h5 h6 h7 (to_next hI hM d2 (by omega) (by omega))
  · simp only [e2, e3, w6, w7, i1, t1, q1, q2, c1, c2, k1, k2, k3, k4, k5, b1, b2, l1, l2, l3, l4, l5, ha, hb, hc, Int.toNat_natCast, hkk, tn, er0, er1, erm, er2, v1, v2, v3, cx, cy, s1, s2, s3, r1, r2, r3, s4, s5, w8, w9, ia, xa, pa, zn, zN, Bool.not_true, Bool.not_false, Bool.true_eq_false, Bool.false_eq_true, false_implies, true_implies, true_and, and_true, beq_self_eq_true, Bool.and_self, eq_self, decide_true, decide_false, luv_eq, lcv_eq, lsv_eq, ne_eq, not_false_eq_true, lvv_eq]
    simp only [VC_eq, zv4_vc, e2, e3, w6, w7, i1, t1, q1, q2, c1, c2, k1, k2, k3, k4, k5, b1, b2, l1, l2, l3, l4, l5, ha, hb, hc, Int.toNat_natCast, hkk, tn, er0, er1, erm, er2, v1, v2, v3, cx, cy, s1, s2, s3, r1, r2, r3, s4, s5, w8, w9, ia, xa, pa, zn, zN, Bool.not_true, Bool.not_false, Bool.true_eq_false, Bool.false_eq_true, false_implies, true_implies, true_and, and_true, beq_self_eq_true, Bool.and_self, eq_self, decide_true, decide_false, luv_eq, lcv_eq, lsv_eq, ne_eq, not_false_eq_true, lvv_eq]
    all_goals (try (repeat' first | exact H1 _ _ _ _ _ _ _ _ | exact True.intro | exact rfl | apply And.intro | (intro _) | omega))
theorem cy_v5 (Q : Int → Nat → Int → Int → Int → Int → Int → Int → Int → Int → Int → Array Value → Nat → Array Value → Nat → Int → Int → Int → Int → Int → Int → Int → Int → Int → Array Value → Prop) {i x : Nat} (hi : i < 300) (d2 : x < num) (hf : metB cs off num x = true) (hk : (ins cs off x).o = 3) (g0 g1 g2 g3 g4 g5 g6 g7 : Int) (H : ∀ (y : Nat) (h0 h1 h2 h3 h4 h5 h6 h7 : Int), y ∈ toL cs off num x → Q (i + 1 : Nat) num (y : Nat) h0 h1 h2 h3 h4 h5 h6 h7 (cod cs off num) (cnt (metB cs off num) num) (trR cs off num) (cnt (metB cs off num) num) ((cnt (metB cs off num) y : Nat) : Int) h0 h1 h2 h3 h4 h5 h6 h7 (cod (trR cs off num) 0 (cnt (metB cs off num) num))) :
    VC (yv_t 5 off num cs ty ro rn rc rt i num (x : Nat) g0 g1 g2 g3 g4 g5 g6 g7 (cod cs off num) (cnt (metB cs off num) num) (trR cs off num) (cnt (metB cs off num) num) ((cnt (metB cs off num) x : Nat) : Int) g0 g1 g2 g3 g4 g5 g6 g7 (cod (trR cs off num) 0 (cnt (metB cs off num) num))) (boolR true) (yv_x 5 off num cs ty ro rn rc rt i num (x : Nat) g0 g1 g2 g3 g4 g5 g6 g7 (cod cs off num) (cnt (metB cs off num) num) (trR cs off num) (cnt (metB cs off num) num) ((cnt (metB cs off num) x : Nat) : Int) g0 g1 g2 g3 g4 g5 g6 g7 (cod (trR cs off num) 0 (cnt (metB cs off num) num)) (fun i' k' nx' h0 h1 h2 h3 h4 h5 h6 h7 row' tk' ts' bk' ny' j0 j1 j2 j3 j4 j5 j6 j7 bow' => VC (zv_t 5 off num cs ty ro rn rc rt i' k' nx' h0 h1 h2 h3 h4 h5 h6 h7 row' tk' ts' bk' ny' j0 j1 j2 j3 j4 j5 j6 j7 bow') (boolR true) (zv_x 5 off num cs ty ro rn rc rt i' k' nx' h0 h1 h2 h3 h4 h5 h6 h7 row' tk' ts' bk' ny' j0 j1 j2 j3 j4 j5 j6 j7 bow' Q))) := by
  refine VC.mk ?_
  rw [yv5_vc]
  obtain ⟨n64, hle, hpx, e2, hp, e3, w6, w7, i1, q1⟩ := facs hI hM d2 hf
  obtain ⟨t1, q2⟩ := text_b hI hM d2 hf
  obtain ⟨c1, c2, k1, k2, k3, k4, k5, ha, hb, hc, hn⟩ := code_a hI hM d2
  obtain ⟨b1, b2, l1, l2, l3, l4, l5⟩ := code_b hI hM d2 hf
  obtain ⟨cx, cy, s1, s2, s3, r1, r2, r3, s4, s5, w8, w9, xa, pa⟩ := facz hI hM d2 hf ha
  have ia : ari BinOp.add IntKind.i64 (i : Int) 1 = ((i + 1 : Nat) : Int) := i64_add1 (by omega)
  have er0 : ((rn : Int) == 0) = false := by rw [beq_eq_false_iff_ne]; omega
  have er1 : ((rn : Int) ≠ 0) = True := eq_true (by omega)
  have erm : ari BinOp.rem IntKind.i64 (i : Int) (rn : Int) = ((i % rn : Nat) : Int) := remN (by omega) (by omega)
  have hlt : i % rn < rn := Nat.mod_lt _ (by omega)
  have er2 : (0 : Int) ≤ ((i % rn : Nat) : Int) ∧ ((i % rn : Nat) : Int) < (rn : Int) := by omega
  obtain ⟨v1, v2, v3⟩ := hr _ hlt
  have hkk : ((ins cs off x).o = 3 ∧ 0 < (ins cs off x).o ∧ (ins cs off x).o ≤ 6) = True := eq_true ⟨hk, by omega, by omega⟩
  have zn : 0 + num = num := Nat.zero_add _
  have zN : 0 + (cnt (metB cs off num) num) = (cnt (metB cs off num) num) := Nat.zero_add _
  have tn : (trimI (metB cs off num) (ins cs off x)).n = (ins cs off x).n := trim_n hI hM (by omega)
  have H1 := H (x + 1)
  have H1 := fun h0 h1 h2 h3 h4 h5 h6 h7 => H1 h0 h1 h2 h3 h4 h5 h6 h7 (to_next hI hM d2 (by omega) (by omega))
  · simp only [e2, e3, w6, w7, i1, t1, q1, q2, c1, c2, k1, k2, k3, k4, k5, b1, b2, l1, l2, l3, l4, l5, ha, hb, hc, Int.toNat_natCast, hkk, tn, er0, er1, erm, er2, v1, v2, v3, cx, cy, s1, s2, s3, r1, r2, r3, s4, s5, w8, w9, ia, xa, pa, zn, zN, Bool.not_true, Bool.not_false, Bool.true_eq_false, Bool.false_eq_true, false_implies, true_implies, true_and, and_true, beq_self_eq_true, Bool.and_self, eq_self, decide_true, decide_false, luv_eq, lcv_eq, lsv_eq, ne_eq, not_false_eq_true, lvv_eq]
    simp only [VC_eq, zv5_vc, e2, e3, w6, w7, i1, t1, q1, q2, c1, c2, k1, k2, k3, k4, k5, b1, b2, l1, l2, l3, l4, l5, ha, hb, hc, Int.toNat_natCast, hkk, tn, er0, er1, erm, er2, v1, v2, v3, cx, cy, s1, s2, s3, r1, r2, r3, s4, s5, w8, w9, ia, xa, pa, zn, zN, Bool.not_true, Bool.not_false, Bool.true_eq_false, Bool.false_eq_true, false_implies, true_implies, true_and, and_true, beq_self_eq_true, Bool.and_self, eq_self, decide_true, decide_false, luv_eq, lcv_eq, lsv_eq, ne_eq, not_false_eq_true, lvv_eq]
    all_goals (try (repeat' first | exact H1 _ _ _ _ _ _ _ _ | exact True.intro | exact rfl | apply And.intro | (intro _) | omega))
theorem cy_v6 (Q : Int → Nat → Int → Int → Int → Int → Int → Int → Int → Int → Int → Array Value → Nat → Array Value → Nat → Int → Int → Int → Int → Int → Int → Int → Int → Int → Array Value → Prop) {i x : Nat} (hi : i < 300) (d2 : x < num) (hf : metB cs off num x = true) (hk : (ins cs off x).o = 4) (g0 g1 g2 g3 g4 g5 g6 g7 : Int) (H : ∀ (y : Nat) (h0 h1 h2 h3 h4 h5 h6 h7 : Int), y ∈ toL cs off num x → Q (i + 1 : Nat) num (y : Nat) h0 h1 h2 h3 h4 h5 h6 h7 (cod cs off num) (cnt (metB cs off num) num) (trR cs off num) (cnt (metB cs off num) num) ((cnt (metB cs off num) y : Nat) : Int) h0 h1 h2 h3 h4 h5 h6 h7 (cod (trR cs off num) 0 (cnt (metB cs off num) num))) :
    VC (yv_t 6 off num cs ty ro rn rc rt i num (x : Nat) g0 g1 g2 g3 g4 g5 g6 g7 (cod cs off num) (cnt (metB cs off num) num) (trR cs off num) (cnt (metB cs off num) num) ((cnt (metB cs off num) x : Nat) : Int) g0 g1 g2 g3 g4 g5 g6 g7 (cod (trR cs off num) 0 (cnt (metB cs off num) num))) (boolR true) (yv_x 6 off num cs ty ro rn rc rt i num (x : Nat) g0 g1 g2 g3 g4 g5 g6 g7 (cod cs off num) (cnt (metB cs off num) num) (trR cs off num) (cnt (metB cs off num) num) ((cnt (metB cs off num) x : Nat) : Int) g0 g1 g2 g3 g4 g5 g6 g7 (cod (trR cs off num) 0 (cnt (metB cs off num) num)) (fun i' k' nx' h0 h1 h2 h3 h4 h5 h6 h7 row' tk' ts' bk' ny' j0 j1 j2 j3 j4 j5 j6 j7 bow' => VC (zv_t 6 off num cs ty ro rn rc rt i' k' nx' h0 h1 h2 h3 h4 h5 h6 h7 row' tk' ts' bk' ny' j0 j1 j2 j3 j4 j5 j6 j7 bow') (boolR true) (zv_x 6 off num cs ty ro rn rc rt i' k' nx' h0 h1 h2 h3 h4 h5 h6 h7 row' tk' ts' bk' ny' j0 j1 j2 j3 j4 j5 j6 j7 bow' Q))) := by
  refine VC.mk ?_
  rw [yv6_vc]
  obtain ⟨n64, hle, hpx, e2, hp, e3, w6, w7, i1, q1⟩ := facs hI hM d2 hf
  obtain ⟨t1, q2⟩ := text_b hI hM d2 hf
  obtain ⟨c1, c2, k1, k2, k3, k4, k5, ha, hb, hc, hn⟩ := code_a hI hM d2
  obtain ⟨b1, b2, l1, l2, l3, l4, l5⟩ := code_b hI hM d2 hf
  obtain ⟨cx, cy, s1, s2, s3, r1, r2, r3, s4, s5, w8, w9, xa, pa⟩ := facz hI hM d2 hf ha
  have ia : ari BinOp.add IntKind.i64 (i : Int) 1 = ((i + 1 : Nat) : Int) := i64_add1 (by omega)
  have er0 : ((rn : Int) == 0) = false := by rw [beq_eq_false_iff_ne]; omega
  have er1 : ((rn : Int) ≠ 0) = True := eq_true (by omega)
  have erm : ari BinOp.rem IntKind.i64 (i : Int) (rn : Int) = ((i % rn : Nat) : Int) := remN (by omega) (by omega)
  have hlt : i % rn < rn := Nat.mod_lt _ (by omega)
  have er2 : (0 : Int) ≤ ((i % rn : Nat) : Int) ∧ ((i % rn : Nat) : Int) < (rn : Int) := by omega
  obtain ⟨v1, v2, v3⟩ := hr _ hlt
  have hkk : ((ins cs off x).o = 4 ∧ 0 < (ins cs off x).o ∧ (ins cs off x).o ≤ 6) = True := eq_true ⟨hk, by omega, by omega⟩
  have zn : 0 + num = num := Nat.zero_add _
  have zN : 0 + (cnt (metB cs off num) num) = (cnt (metB cs off num) num) := Nat.zero_add _
  have tn : (trimI (metB cs off num) (ins cs off x)).n = (ins cs off x).n := trim_n hI hM (by omega)
  have H1 := H (x + 1)
  have H1 := fun h0 h1 h2 h3 h4 h5 h6 h7 => H1 h0 h1 h2 h3 h4 h5 h6 h7 (to_next hI hM d2 (by omega) (by omega))
  · simp only [e2, e3, w6, w7, i1, t1, q1, q2, c1, c2, k1, k2, k3, k4, k5, b1, b2, l1, l2, l3, l4, l5, ha, hb, hc, Int.toNat_natCast, hkk, tn, er0, er1, erm, er2, v1, v2, v3, cx, cy, s1, s2, s3, r1, r2, r3, s4, s5, w8, w9, ia, xa, pa, zn, zN, Bool.not_true, Bool.not_false, Bool.true_eq_false, Bool.false_eq_true, false_implies, true_implies, true_and, and_true, beq_self_eq_true, Bool.and_self, eq_self, decide_true, decide_false, luv_eq, lcv_eq, lsv_eq, ne_eq, not_false_eq_true, lvv_eq]
    simp only [VC_eq, zv6_vc, e2, e3, w6, w7, i1, t1, q1, q2, c1, c2, k1, k2, k3, k4, k5, b1, b2, l1, l2, l3, l4, l5, ha, hb, hc, Int.toNat_natCast, hkk, tn, er0, er1, erm, er2, v1, v2, v3, cx, cy, s1, s2, s3, r1, r2, r3, s4, s5, w8, w9, ia, xa, pa, zn, zN, Bool.not_true, Bool.not_false, Bool.true_eq_false, Bool.false_eq_true, false_implies, true_implies, true_and, and_true, beq_self_eq_true, Bool.and_self, eq_self, decide_true, decide_false, luv_eq, lcv_eq, lsv_eq, ne_eq, not_false_eq_true, lvv_eq]
    all_goals (try (repeat' first | exact H1 _ _ _ _ _ _ _ _ | exact True.intro | exact rfl | apply And.intro | (intro _) | omega))
theorem cy_v7 (Q : Int → Nat → Int → Int → Int → Int → Int → Int → Int → Int → Int → Array Value → Nat → Array Value → Nat → Int → Int → Int → Int → Int → Int → Int → Int → Int → Array Value → Prop) {i x : Nat} (hi : i < 300) (d2 : x < num) (hf : metB cs off num x = true) (hk : (ins cs off x).o = 5) (g0 g1 g2 g3 g4 g5 g6 g7 : Int) (H : ∀ (y : Nat) (h0 h1 h2 h3 h4 h5 h6 h7 : Int), y ∈ toL cs off num x → Q (i + 1 : Nat) num (y : Nat) h0 h1 h2 h3 h4 h5 h6 h7 (cod cs off num) (cnt (metB cs off num) num) (trR cs off num) (cnt (metB cs off num) num) ((cnt (metB cs off num) y : Nat) : Int) h0 h1 h2 h3 h4 h5 h6 h7 (cod (trR cs off num) 0 (cnt (metB cs off num) num))) :
    VC (yv_t 7 off num cs ty ro rn rc rt i num (x : Nat) g0 g1 g2 g3 g4 g5 g6 g7 (cod cs off num) (cnt (metB cs off num) num) (trR cs off num) (cnt (metB cs off num) num) ((cnt (metB cs off num) x : Nat) : Int) g0 g1 g2 g3 g4 g5 g6 g7 (cod (trR cs off num) 0 (cnt (metB cs off num) num))) (boolR true) (yv_x 7 off num cs ty ro rn rc rt i num (x : Nat) g0 g1 g2 g3 g4 g5 g6 g7 (cod cs off num) (cnt (metB cs off num) num) (trR cs off num) (cnt (metB cs off num) num) ((cnt (metB cs off num) x : Nat) : Int) g0 g1 g2 g3 g4 g5 g6 g7 (cod (trR cs off num) 0 (cnt (metB cs off num) num)) (fun i' k' nx' h0 h1 h2 h3 h4 h5 h6 h7 row' tk' ts' bk' ny' j0 j1 j2 j3 j4 j5 j6 j7 bow' => VC (zv_t 7 off num cs ty ro rn rc rt i' k' nx' h0 h1 h2 h3 h4 h5 h6 h7 row' tk' ts' bk' ny' j0 j1 j2 j3 j4 j5 j6 j7 bow') (boolR true) (zv_x 7 off num cs ty ro rn rc rt i' k' nx' h0 h1 h2 h3 h4 h5 h6 h7 row' tk' ts' bk' ny' j0 j1 j2 j3 j4 j5 j6 j7 bow' Q))) := by
  refine VC.mk ?_
  rw [yv7_vc]
  obtain ⟨n64, hle, hpx, e2, hp, e3, w6, w7, i1, q1⟩ := facs hI hM d2 hf
  obtain ⟨t1, q2⟩ := text_b hI hM d2 hf
  obtain ⟨c1, c2, k1, k2, k3, k4, k5, ha, hb, hc, hn⟩ := code_a hI hM d2
  obtain ⟨b1, b2, l1, l2, l3, l4, l5⟩ := code_b hI hM d2 hf
  obtain ⟨cx, cy, s1, s2, s3, r1, r2, r3, s4, s5, w8, w9, xa, pa⟩ := facz hI hM d2 hf ha
  have ia : ari BinOp.add IntKind.i64 (i : Int) 1 = ((i + 1 : Nat) : Int) := i64_add1 (by omega)
  have er0 : ((rn : Int) == 0) = false := by rw [beq_eq_false_iff_ne]; omega
  have er1 : ((rn : Int) ≠ 0) = True := eq_true (by omega)
  have erm : ari BinOp.rem IntKind.i64 (i : Int) (rn : Int) = ((i % rn : Nat) : Int) := remN (by omega) (by omega)
  have hlt : i % rn < rn := Nat.mod_lt _ (by omega)
  have er2 : (0 : Int) ≤ ((i % rn : Nat) : Int) ∧ ((i % rn : Nat) : Int) < (rn : Int) := by omega
  obtain ⟨v1, v2, v3⟩ := hr _ hlt
  have hkk : ((ins cs off x).o = 5 ∧ 0 < (ins cs off x).o ∧ (ins cs off x).o ≤ 6) = True := eq_true ⟨hk, by omega, by omega⟩
  have zn : 0 + num = num := Nat.zero_add _
  have zN : 0 + (cnt (metB cs off num) num) = (cnt (metB cs off num) num) := Nat.zero_add _
  have tn : (trimI (metB cs off num) (ins cs off x)).n = ((cnt (metB cs off num) (ins cs off x).n.toNat : Nat) : Int) := trim_j hI hM (by omega)
  have H2 := H (ins cs off x).n.toNat
  have H2 := fun h0 h1 h2 h3 h4 h5 h6 h7 => H2 h0 h1 h2 h3 h4 h5 h6 h7 (to_jump hI hM d2 (by omega))
  have jn : IntKind.i64.wrap (ins cs off x).n = ((ins cs off x).n.toNat : Int) := by rw [Go.IntWalk.i64_in _ (by omega)]; omega
  have hcn := cnt_le (metB cs off num) (ins cs off x).n.toNat
  have jm : IntKind.i64.wrap ((cnt (metB cs off num) (ins cs off x).n.toNat : Nat) : Int) = ((cnt (metB cs off num) (ins cs off x).n.toNat : Nat) : Int) := Go.IntWalk.i64_in _ (by omega)
  · simp only [e2, e3, w6, w7, i1, t1, q1, q2, c1, c2, k1, k2, k3, k4, k5, b1, b2, l1, l2, l3, l4, l5, ha, hb, hc, Int.toNat_natCast, hkk, tn, er0, er1, erm, er2, v1, v2, v3, cx, cy, s1, s2, s3, r1, r2, r3, s4, s5, w8, w9, ia, xa, pa, zn, zN, jn, jm, Bool.not_true, Bool.not_false, Bool.true_eq_false, Bool.false_eq_true, false_implies, true_implies, true_and, and_true, beq_self_eq_true, Bool.and_self, eq_self, decide_true, decide_false, luv_eq, lcv_eq, lsv_eq, ne_eq, not_false_eq_true, lvv_eq]
    simp only [VC_eq, zv7_vc, e2, e3, w6, w7, i1, t1, q1, q2, c1, c2, k1, k2, k3, k4, k5, b1, b2, l1, l2, l3, l4, l5, ha, hb, hc, Int.toNat_natCast, hkk, tn, er0, er1, erm, er2, v1, v2, v3, cx, cy, s1, s2, s3, r1, r2, r3, s4, s5, w8, w9, ia, xa, pa, zn, zN, jn, jm, Bool.not_true, Bool.not_false, Bool.true_eq_false, Bool.false_eq_true, false_implies, true_implies, true_and, and_true, beq_self_eq_true, Bool.and_self, eq_self, decide_true, decide_false, luv_eq, lcv_eq, lsv_eq, ne_eq, not_false_eq_true, lvv_eq]
    all_goals (try (repeat' first | exact H2 _ _ _ _ _ _ _ _ | exact True.intro | exact rfl | apply And.intro | (intro _) | omega))
theorem cy_v8 (Q : Int → Nat → Int → Int → Int → Int → Int → Int → Int → Int → Int → Array Value → Nat → Array Value → Nat → Int → Int → Int → Int → Int → Int → Int → Int → Int → Array Value → Prop) {i x : Nat} (hi : i < 300) (d2 : x < num) (hf : metB cs off num x = true) (hk : (ins cs off x).o = 6) (g0 g1 g2 g3 g4 g5 g6 g7 : Int) (H : ∀ (y : Nat) (h0 h1 h2 h3 h4 h5 h6 h7 : Int), y ∈ toL cs off num x → Q (i + 1 : Nat) num (y : Nat) h0 h1 h2 h3 h4 h5 h6 h7 (cod cs off num) (cnt (metB cs off num) num) (trR cs off num) (cnt (metB cs off num) num) ((cnt (metB cs off num) y : Nat) : Int) h0 h1 h2 h3 h4 h5 h6 h7 (cod (trR cs off num) 0 (cnt (metB cs off num) num))) :
    VC (yv_t 8 off num cs ty ro rn rc rt i num (x : Nat) g0 g1 g2 g3 g4 g5 g6 g7 (cod cs off num) (cnt (metB cs off num) num) (trR cs off num) (cnt (metB cs off num) num) ((cnt (metB cs off num) x : Nat) : Int) g0 g1 g2 g3 g4 g5 g6 g7 (cod (trR cs off num) 0 (cnt (metB cs off num) num))) (boolR true) (yv_x 8 off num cs ty ro rn rc rt i num (x : Nat) g0 g1 g2 g3 g4 g5 g6 g7 (cod cs off num) (cnt (metB cs off num) num) (trR cs off num) (cnt (metB cs off num) num) ((cnt (metB cs off num) x : Nat) : Int) g0 g1 g2 g3 g4 g5 g6 g7 (cod (trR cs off num) 0 (cnt (metB cs off num) num)) (fun i' k' nx' h0 h1 h2 h3 h4 h5 h6 h7 row' tk' ts' bk' ny' j0 j1 j2 j3 j4 j5 j6 j7 bow' => VC (zv_t 8 off num cs ty ro rn rc rt i' k' nx' h0 h1 h2 h3 h4 h5 h6 h7 row' tk' ts' bk' ny' j0 j1 j2 j3 j4 j5 j6 j7 bow') (boolR true) (zv_x 8 off num cs ty ro rn rc rt i' k' nx' h0 h1 h2 h3 h4 h5 h6 h7 row' tk' ts' bk' ny' j0 j1 j2 j3 j4 j5 j6 j7 bow' Q))) := by
  refine VC.mk ?_
  rw [yv8_vc]
  obtain ⟨n64, hle, hpx, e2, hp, e3, w6, w7, i1, q1⟩ := facs hI hM d2 hf
  obtain ⟨t1, q2⟩ := text_b hI hM d2 hf
  obtain ⟨c1, c2, k1, k2, k3, k4, k5, ha, hb, hc, hn⟩ := code_a hI hM d2
  obtain ⟨b1, b2, l1, l2, l3, l4, l5⟩ := code_b hI hM d2 hf
  obtain ⟨cx, cy, s1, s2, s3, r1, r2, r3, s4, s5, w8, w9, xa, pa⟩ := facz hI hM d2 hf ha
  have ia : ari BinOp.add IntKind.i64 (i : Int) 1 = ((i + 1 : Nat) : Int) := i64_add1 (by omega)
  have er0 : ((rn : Int) == 0) = false := by rw [beq_eq_false_iff_ne]; omega
  have er1 : ((rn : Int) ≠ 0) = True := eq_true (by omega)
  have erm : ari BinOp.rem IntKind.i64 (i : Int) (rn : Int) = ((i % rn : Nat) : Int) := remN (by omega) (by omega)
  have hlt : i % rn < rn := Nat.mod_lt _ (by omega)
  have er2 : (0 : Int) ≤ ((i % rn : Nat) : Int) ∧ ((i % rn : Nat) : Int) < (rn : Int) := by omega
  obtain ⟨v1, v2, v3⟩ := hr _ hlt
  have hkk : ((ins cs off x).o = 6 ∧ 0 < (ins cs off x).o ∧ (ins cs off x).o ≤ 6) = True := eq_true ⟨hk, by omega, by omega⟩
  have zn : 0 + num = num := Nat.zero_add _
  have zN : 0 + (cnt (metB cs off num) num) = (cnt (metB cs off num) num) := Nat.zero_add _
  have tn : (trimI (metB cs off num) (ins cs off x)).n = ((cnt (metB cs off num) (ins cs off x).n.toNat : Nat) : Int) := trim_j hI hM (by omega)
  have H1 := H (x + 1)
  have H1 := fun h0 h1 h2 h3 h4 h5 h6 h7 => H1 h0 h1 h2 h3 h4 h5 h6 h7 (to_next hI hM d2 (by omega) (by omega))
  have H2 := H (ins cs off x).n.toNat
  have H2 := fun h0 h1 h2 h3 h4 h5 h6 h7 => H2 h0 h1 h2 h3 h4 h5 h6 h7 (to_jump hI hM d2 (by omega))
  have jn : IntKind.i64.wrap (ins cs off x).n = ((ins cs off x).n.toNat : Int) := by rw [Go.IntWalk.i64_in _ (by omega)]; omega
  have hcn := cnt_le (metB cs off num) (ins cs off x).n.toNat
  have jm : IntKind.i64.wrap ((cnt (metB cs off num) (ins cs off x).n.toNat : Nat) : Int) = ((cnt (metB cs off num) (ins cs off x).n.toNat : Nat) : Int) := Go.IntWalk.i64_in _ (by omega)
  by_cases hg : (Rg.at (Rg.mk g0 g1 g2 g3 g4 g5 g6 g7) (ins cs off x).a.toNat != 0) = true
  · simp only [hg, e2, e3, w6, w7, i1, t1, q1, q2, c1, c2, k1, k2, k3, k4, k5, b1, b2, l1, l2, l3, l4, l5, ha, hb, hc, Int.toNat_natCast, hkk, tn, er0, er1, erm, er2, v1, v2, v3, cx, cy, s1, s2, s3, r1, r2, r3, s4, s5, w8, w9, ia, xa, pa, zn, zN, jn, jm, Bool.not_true, Bool.not_false, Bool.true_eq_false, Bool.false_eq_true, false_implies, true_implies, true_and, and_true, beq_self_eq_true, Bool.and_self, eq_self, decide_true, decide_false, luv_eq, lcv_eq, lsv_eq, ne_eq, not_false_eq_true, lvv_eq]
    simp only [VC_eq, zv8_vc, hg, e2, e3, w6, w7, i1, t1, q1, q2, c1, c2, k1, k2, k3, k4, k5, b1, b2, l1, l2, l3, l4, l5, ha, hb, hc, Int.toNat_natCast, hkk, tn, er0, er1, erm, er2, v1, v2, v3, cx, cy, s1, s2, s3, r1, r2, r3, s4, s5, w8, w9, ia, xa, pa, zn, zN, jn, jm, Bool.not_true, Bool.not_false, Bool.true_eq_false, Bool.false_eq_true, false_implies, true_implies, true_and, and_true, beq_self_eq_true, Bool.and_self, eq_self, decide_true, decide_false, luv_eq, lcv_eq, lsv_eq, ne_eq, not_false_eq_true, lvv_eq]
    all_goals (try (repeat' first | first | exact H1 _ _ _ _ _ _ _ _ | exact H2 _ _ _ _ _ _ _ _ | exact True.intro | exact rfl | apply And.intro | (intro _) | omega))
  · have hg := (Bool.not_eq_true _).mp hg
    simp only [hg, e2, e3, w6, w7, i1, t1, q1, q2, c1, c2, k1, k2, k3, k4, k5, b1, b2, l1, l2, l3, l4, l5, ha, hb, hc, Int.toNat_natCast, hkk, tn, er0, er1, erm, er2, v1, v2, v3, cx, cy, s1, s2, s3, r1, r2, r3, s4, s5, w8, w9, ia, xa, pa, zn, zN, jn, jm, Bool.not_true, Bool.not_false, Bool.true_eq_false, Bool.false_eq_true, false_implies, true_implies, true_and, and_true, beq_self_eq_true, Bool.and_self, eq_self, decide_true, decide_false, luv_eq, lcv_eq, lsv_eq, ne_eq, not_false_eq_true, lvv_eq]
    simp only [VC_eq, zv8_vc, hg, e2, e3, w6, w7, i1, t1, q1, q2, c1, c2, k1, k2, k3, k4, k5, b1, b2, l1, l2, l3, l4, l5, ha, hb, hc, Int.toNat_natCast, hkk, tn, er0, er1, erm, er2, v1, v2, v3, cx, cy, s1, s2, s3, r1, r2, r3, s4, s5, w8, w9, ia, xa, pa, zn, zN, jn, jm, Bool.not_true, Bool.not_false, Bool.true_eq_false, Bool.false_eq_true, false_implies, true_implies, true_and, and_true, beq_self_eq_true, Bool.and_self, eq_self, decide_true, decide_false, luv_eq, lcv_eq, lsv_eq, ne_eq, not_false_eq_true, lvv_eq]
    all_goals (try (repeat' first | first | exact H1 _ _ _ _ _ _ _ _ | exact H2 _ _ _ _ _ _ _ _ | exact True.intro | exact rfl | apply And.intro | (intro _) | omega))
theorem go_v {i x : Nat} (hi : i < 300) (d2 : x < num) (hf : metB cs off num x = true) (o0 : (ins cs off x).o ≠ 0) (g0 g1 g2 g3 g4 g5 g6 g7 : Int) (H : ∀ (y : Nat) (h0 h1 h2 h3 h4 h5 h6 h7 : Int), y ∈ toL cs off num x → Good Try.prog (boolR true) 2 (sv_F off num cs ty ro rn rc rt (i + 1 : Nat) num (y : Nat) h0 h1 h2 h3 h4 h5 h6 h7 (cod cs off num) (cnt (metB cs off num) num) (trR cs off num) (cnt (metB cs off num) num) ((cnt (metB cs off num) y : Nat) : Int) h0 h1 h2 h3 h4 h5 h6 h7 (cod (trR cs off num) 0 (cnt (metB cs off num) num))) (sv_M off num cs ty ro rn rc rt (i + 1 : Nat) num (y : Nat) h0 h1 h2 h3 h4 h5 h6 h7 (cod cs off num) (cnt (metB cs off num) num) (trR cs off num) (cnt (metB cs off num) num) ((cnt (metB cs off num) y : Nat) : Int) h0 h1 h2 h3 h4 h5 h6 h7 (cod (trR cs off num) 0 (cnt (metB cs off num) num)))) : Good Try.prog (boolR true) 2 (sv_F off num cs ty ro rn rc rt i num (x : Nat) g0 g1 g2 g3 g4 g5 g6 g7 (cod cs off num) (cnt (metB cs off num) num) (trR cs off num) (cnt (metB cs off num) num) ((cnt (metB cs off num) x : Nat) : Int) g0 g1 g2 g3 g4 g5 g6 g7 (cod (trR cs off num) 0 (cnt (metB cs off num) num))) (sv_M off num cs ty ro rn rc rt i num (x : Nat) g0 g1 g2 g3 g4 g5 g6 g7 (cod cs off num) (cnt (metB cs off num) num) (trR cs off num) (cnt (metB cs off num) num) ((cnt (metB cs off num) x : Nat) : Int) g0 g1 g2 g3 g4 g5 g6 g7 (cod (trR cs off num) 0 (cnt (metB cs off num) num))) := by
  have hA := (mayV_iff.1 hM).2 x d2
  obtain ⟨hok, _⟩ := Ins.okN_iff.1 hA
  have hin := (hI.2 x d2).2.1
  by_cases c : 16 < (ins cs off x).o ∧ (ins cs off x).o ≤ 38
  · have U : Good Try.prog (boolR true) 2 (uv_F off num cs ty ro rn rc rt i num (x : Nat) g0 g1 g2 g3 g4 g5 g6 g7 (cod cs off num) (cnt (metB cs off num) num) (trR cs off num) (cnt (metB cs off num) num) ((cnt (metB cs off num) x : Nat) : Int) g0 g1 g2 g3 g4 g5 g6 g7 (cod (trR cs off num) 0 (cnt (metB cs off num) num))) (uv_M off num cs ty ro rn rc rt i num (x : Nat) g0 g1 g2 g3 g4 g5 g6 g7 (cod cs off num) (cnt (metB cs off num) num) (trR cs off num) (cnt (metB cs off num) num) ((cnt (metB cs off num) x : Nat) : Int) g0 g1 g2 g3 g4 g5 g6 g7 (cod (trR cs off num) 0 (cnt (metB cs off num) num))) := vc_go (Fv_ok 2) (t := yv_t 2 off num cs ty ro rn rc rt i num (x : Nat) g0 g1 g2 g3 g4 g5 g6 g7 (cod cs off num) (cnt (metB cs off num) num) (trR cs off num) (cnt (metB cs off num) num) ((cnt (metB cs off num) x : Nat) : Int) g0 g1 g2 g3 g4 g5 g6 g7 (cod (trR cs off num) 0 (cnt (metB cs off num) num))) (by delta yv_t; exact rfl) (cy_v2 off num cs ty ro rn rc rt hI hM hr hr0 hr1 (fun i' k' nx' g0 g1 g2 g3 g4 g5 g6 g7 row' tk' ts' bk' ny' h0 h1 h2 h3 h4 h5 h6 h7 bow' => Good Try.prog (boolR true) 2 (sv_F off num cs ty ro rn rc rt i' k' nx' g0 g1 g2 g3 g4 g5 g6 g7 row' tk' ts' bk' ny' h0 h1 h2 h3 h4 h5 h6 h7 bow') (sv_M off num cs ty ro rn rc rt i' k' nx' g0 g1 g2 g3 g4 g5 g6 g7 row' tk' ts' bk' ny' h0 h1 h2 h3 h4 h5 h6 h7 bow')) hi d2 hf c g0 g1 g2 g3 g4 g5 g6 g7 H) (fun _ _ h => h)
      (fun fs m hb => yv_go (fun i' k' nx' g0 g1 g2 g3 g4 g5 g6 g7 row' tk' ts' bk' ny' h0 h1 h2 h3 h4 h5 h6 h7 bow' h => vc_go (Fv_ok 2) (t := zv_t 2 off num cs ty ro rn rc rt i' k' nx' g0 g1 g2 g3 g4 g5 g6 g7 row' tk' ts' bk' ny' h0 h1 h2 h3 h4 h5 h6 h7 bow') (by delta zv_t; exact rfl) h (fun _ _ h => h) (fun fs m hb => zv_go (fun _ _ _ _ _ _ _ _ _ _ _ _ _ _ _ _ _ _ _ _ _ _ _ _ _ h => h) hb)) hb)
    exact vc_go (Fv_ok 2) (t := xv_t 2 off num cs ty ro rn rc rt i num (x : Nat) g0 g1 g2 g3 g4 g5 g6 g7 (cod cs off num) (cnt (metB cs off num) num) (trR cs off num) (cnt (metB cs off num) num) ((cnt (metB cs off num) x : Nat) : Int) g0 g1 g2 g3 g4 g5 g6 g7 (cod (trR cs off num) 0 (cnt (metB cs off num) num))) (by delta xv_t; exact rfl) (cx_v2 off num cs ty ro rn rc rt hI hM hr hr0 hr1 (fun i' k' nx' g0 g1 g2 g3 g4 g5 g6 g7 row' tk' ts' bk' ny' h0 h1 h2 h3 h4 h5 h6 h7 bow' => Good Try.prog (boolR true) 2 (uv_F off num cs ty ro rn rc rt i' k' nx' g0 g1 g2 g3 g4 g5 g6 g7 row' tk' ts' bk' ny' h0 h1 h2 h3 h4 h5 h6 h7 bow') (uv_M off num cs ty ro rn rc rt i' k' nx' g0 g1 g2 g3 g4 g5 g6 g7 row' tk' ts' bk' ny' h0 h1 h2 h3 h4 h5 h6 h7 bow')) hi d2 hf c g0 g1 g2 g3 g4 g5 g6 g7 U) (fun _ _ h => h) (fun fs m hb => xv_go (fun _ _ _ _ _ _ _ _ _ _ _ _ _ _ _ _ _ _ _ _ _ _ _ _ _ h => h) hb)
  by_cases c : (ins cs off x).o = 1
  · have U : Good Try.prog (boolR true) 2 (uv_F off num cs ty ro rn rc rt i num (x : Nat) g0 g1 g2 g3 g4 g5 g6 g7 (cod cs off num) (cnt (metB cs off num) num) (trR cs off num) (cnt (metB cs off num) num) ((cnt (metB cs off num) x : Nat) : Int) g0 g1 g2 g3 g4 g5 g6 g7 (cod (trR cs off num) 0 (cnt (metB cs off num) num))) (uv_M off num cs ty ro rn rc rt i num (x : Nat) g0 g1 g2 g3 g4 g5 g6 g7 (cod cs off num) (cnt (metB cs off num) num) (trR cs off num) (cnt (metB cs off num) num) ((cnt (metB cs off num) x : Nat) : Int) g0 g1 g2 g3 g4 g5 g6 g7 (cod (trR cs off num) 0 (cnt (metB cs off num) num))) := vc_go (Fv_ok 3) (t := yv_t 3 off num cs ty ro rn rc rt i num (x : Nat) g0 g1 g2 g3 g4 g5 g6 g7 (cod cs off num) (cnt (metB cs off num) num) (trR cs off num) (cnt (metB cs off num) num) ((cnt (metB cs off num) x : Nat) : Int) g0 g1 g2 g3 g4 g5 g6 g7 (cod (trR cs off num) 0 (cnt (metB cs off num) num))) (by delta yv_t; exact rfl) (cy_v3 off num cs ty ro rn rc rt hI hM hr hr0 hr1 (fun i' k' nx' g0 g1 g2 g3 g4 g5 g6 g7 row' tk' ts' bk' ny' h0 h1 h2 h3 h4 h5 h6 h7 bow' => Good Try.prog (boolR true) 2 (sv_F off num cs ty ro rn rc rt i' k' nx' g0 g1 g2 g3 g4 g5 g6 g7 row' tk' ts' bk' ny' h0 h1 h2 h3 h4 h5 h6 h7 bow') (sv_M off num cs ty ro rn rc rt i' k' nx' g0 g1 g2 g3 g4 g5 g6 g7 row' tk' ts' bk' ny' h0 h1 h2 h3 h4 h5 h6 h7 bow')) hi d2 hf c g0 g1 g2 g3 g4 g5 g6 g7 H) (fun _ _ h => h)
      (fun fs m hb => yv_go (fun i' k' nx' g0 g1 g2 g3 g4 g5 g6 g7 row' tk' ts' bk' ny' h0 h1 h2 h3 h4 h5 h6 h7 bow' h => vc_go (Fv_ok 3) (t := zv_t 3 off num cs ty ro rn rc rt i' k' nx' g0 g1 g2 g3 g4 g5 g6 g7 row' tk' ts' bk' ny' h0 h1 h2 h3 h4 h5 h6 h7 bow') (by delta zv_t; exact rfl) h (fun _ _ h => h) (fun fs m hb => zv_go (fun _ _ _ _ _ _ _ _ _ _ _ _ _ _ _ _ _ _ _ _ _ _ _ _ _ h => h) hb)) hb)
    exact vc_go (Fv_ok 3) (t := xv_t 3 off num cs ty ro rn rc rt i num (x : Nat) g0 g1 g2 g3 g4 g5 g6 g7 (cod cs off num) (cnt (metB cs off num) num) (trR cs off num) (cnt (metB cs off num) num) ((cnt (metB cs off num) x : Nat) : Int) g0 g1 g2 g3 g4 g5 g6 g7 (cod (trR cs off num) 0 (cnt (metB cs off num) num))) (by delta xv_t; exact rfl) (cx_v3 off num cs ty ro rn rc rt hI hM hr hr0 hr1 (fun i' k' nx' g0 g1 g2 g3 g4 g5 g6 g7 row' tk' ts' bk' ny' h0 h1 h2 h3 h4 h5 h6 h7 bow' => Good Try.prog (boolR true) 2 (uv_F off num cs ty ro rn rc rt i' k' nx' g0 g1 g2 g3 g4 g5 g6 g7 row' tk' ts' bk' ny' h0 h1 h2 h3 h4 h5 h6 h7 bow') (uv_M off num cs ty ro rn rc rt i' k' nx' g0 g1 g2 g3 g4 g5 g6 g7 row' tk' ts' bk' ny' h0 h1 h2 h3 h4 h5 h6 h7 bow')) hi d2 hf c g0 g1 g2 g3 g4 g5 g6 g7 U) (fun _ _ h => h) (fun fs m hb => xv_go (fun _ _ _ _ _ _ _ _ _ _ _ _ _ _ _ _ _ _ _ _ _ _ _ _ _ h => h) hb)
  by_cases c : (ins cs off x).o = 2
  · have U : Good Try.prog (boolR true) 2 (uv_F off num cs ty ro rn rc rt i num (x : Nat) g0 g1 g2 g3 g4 g5 g6 g7 (cod cs off num) (cnt (metB cs off num) num) (trR cs off num) (cnt (metB cs off num) num) ((cnt (metB cs off num) x : Nat) : Int) g0 g1 g2 g3 g4 g5 g6 g7 (cod (trR cs off num) 0 (cnt (metB cs off num) num))) (uv_M off num cs ty ro rn rc rt i num (x : Nat) g0 g1 g2 g3 g4 g5 g6 g7 (cod cs off num) (cnt (metB cs off num) num) (trR cs off num) (cnt (metB cs off num) num) ((cnt (metB cs off num) x : Nat) : Int) g0 g1 g2 g3 g4 g5 g6 g7 (cod (trR cs off num) 0 (cnt (metB cs off num) num))) := vc_go (Fv_ok 4) (t := yv_t 4 off num cs ty ro rn rc rt i num (x : Nat) g0 g1 g2 g3 g4 g5 g6 g7 (cod cs off num) (cnt (metB cs off num) num) (trR cs off num) (cnt (metB cs off num) num) ((cnt (metB cs off num) x : Nat) : Int) g0 g1 g2 g3 g4 g5 g6 g7 (cod (trR cs off num) 0 (cnt (metB cs off num) num))) (by delta yv_t; exact rfl) (cy_v4 off num cs ty ro rn rc rt hI hM hr hr0 hr1 (fun i' k' nx' g0 g1 g2 g3 g4 g5 g6 g7 row' tk' ts' bk' ny' h0 h1 h2 h3 h4 h5 h6 h7 bow' => Good Try.prog (boolR true) 2 (sv_F off num cs ty ro rn rc rt i' k' nx' g0 g1 g2 g3 g4 g5 g6 g7 row' tk' ts' bk' ny' h0 h1 h2 h3 h4 h5 h6 h7 bow') (sv_M off num cs ty ro rn rc rt i' k' nx' g0 g1 g2 g3 g4 g5 g6 g7 row' tk' ts' bk' ny' h0 h1 h2 h3 h4 h5 h6 h7 bow')) hi d2 hf c g0 g1 g2 g3 g4 g5 g6 g7 H) (fun _ _ h => h)
      (fun fs m hb => yv_go (fun i' k' nx' g0 g1 g2 g3 g4 g5 g6 g7 row' tk' ts' bk' ny' h0 h1 h2 h3 h4 h5 h6 h7 bow' h => vc_go (Fv_ok 4) (t := zv_t 4 off num cs ty ro rn rc rt i' k' nx' g0 g1 g2 g3 g4 g5 g6 g7 row' tk' ts' bk' ny' h0 h1 h2 h3 h4 h5 h6 h7 bow') (by delta zv_t; exact rfl) h (fun _ _ h => h) (fun fs m hb => zv_go (fun _ _ _ _ _ _ _ _ _ _ _ _ _ _ _ _ _ _ _ _ _ _ _ _ _ h => h) hb)) hb)
    exact vc_go (Fv_ok 4) (t := xv_t 4 off num cs ty ro rn rc rt i num (x : Nat) g0 g1 g2 g3 g4 g5 g6 g7 (cod cs off num) (cnt (metB cs off num) num) (trR cs off num) (cnt (metB cs off num) num) ((cnt (metB cs off num) x : Nat) : Int) g0 g1 g2 g3 g4 g5 g6 g7 (cod (trR cs off num) 0 (cnt (metB cs off num) num))) (by delta xv_t; exact rfl) (cx_v4 off num cs ty ro rn rc rt hI hM hr hr0 hr1 (fun i' k' nx' g0 g1 g2 g3 g4 g5 g6 g7 row' tk' ts' bk' ny' h0 h1 h2 h3 h4 h5 h6 h7 bow' => Good Try.prog (boolR true) 2 (uv_F off num cs ty ro rn rc rt i' k' nx' g0 g1 g2 g3 g4 g5 g6 g7 row' tk' ts' bk' ny' h0 h1 h2 h3 h4 h5 h6 h7 bow') (uv_M off num cs ty ro rn rc rt i' k' nx' g0 g1 g2 g3 g4 g5 g6 g7 row' tk' ts' bk' ny' h0 h1 h2 h3 h4 h5 h6 h7 bow')) hi d2 hf c g0 g1 g2 g3 g4 g5 g6 g7 U) (fun _ _ h => h) (fun fs m hb => xv_go (fun _ _ _ _ _ _ _ _ _ _ _ _ _ _ _ _ _ _ _ _ _ _ _ _ _ h => h) hb)
  by_cases c : (ins cs off x).o = 3
  · have U : Good Try.prog (boolR true) 2 (uv_F off num cs ty ro rn rc rt i num (x : Nat) g0 g1 g2 g3 g4 g5 g6 g7 (cod cs off num) (cnt (metB cs off num) num) (trR cs off num) (cnt (metB cs off num) num) ((cnt (metB cs off num) x : Nat) : Int) g0 g1 g2 g3 g4 g5 g6 g7 (cod (trR cs off num) 0 (cnt (metB cs off num) num))) (uv_M off num cs ty ro rn rc rt i num (x : Nat) g0 g1 g2 g3 g4 g5 g6 g7 (cod cs off num) (cnt (metB cs off num) num) (trR cs off num) (cnt (metB cs off num) num) ((cnt (metB cs off num) x : Nat) : Int) g0 g1 g2 g3 g4 g5 g6 g7 (cod (trR cs off num) 0 (cnt (metB cs off num) num))) := vc_go (Fv_ok 5) (t := yv_t 5 off num cs ty ro rn rc rt i num (x : Nat) g0 g1 g2 g3 g4 g5 g6 g7 (cod cs off num) (cnt (metB cs off num) num) (trR cs off num) (cnt (metB cs off num) num) ((cnt (metB cs off num) x : Nat) : Int) g0 g1 g2 g3 g4 g5 g6 g7 (cod (trR cs off num) 0 (cnt (metB cs off num) num))) (by delta yv_t; exact rfl) (cy_v5 off num cs ty ro rn rc rt hI hM hr hr0 hr1 (fun i' k' nx' g0 g1 g2 g3 g4 g5 g6 g7 row' tk' ts' bk' ny' h0 h1 h2 h3 h4 h5 h6 h7 bow' => Good Try.prog (boolR true) 2 (sv_F off num cs ty ro rn rc rt i' k' nx' g0 g1 g2 g3 g4 g5 g6 g7 row' tk' ts' bk' ny' h0 h1 h2 h3 h4 h5 h6 h7 bow') (sv_M off num cs ty ro rn rc rt i' k' nx' g0 g1 g2 g3 g4 g5 g6 g7 row' tk' ts' bk' ny' h0 h1 h2 h3 h4 h5 h6 h7 bow')) hi d2 hf c g0 g1 g2 g3 g4 g5 g6 g7 H) (fun _ _ h => h)
      (fun fs m hb => yv_go (fun i' k' nx' g0 g1 g2 g3 g4 g5 g6 g7 row' tk' ts' bk' ny' h0 h1 h2 h3 h4 h5 h6 h7 bow' h => vc_go (Fv_ok 5) (t := zv_t 5 off num cs ty ro rn rc rt i' k' nx' g0 g1 g2 g3 g4 g5 g6 g7 row' tk' ts' bk' ny' h0 h1 h2 h3 h4 h5 h6 h7 bow') (by delta zv_t; exact rfl) h (fun _ _ h => h) (fun fs m hb => zv_go (fun _ _ _ _ _ _ _ _ _ _ _ _ _ _ _ _ _ _ _ _ _ _ _ _ _ h => h) hb)) hb)
    exact vc_go (Fv_ok 5) (t := xv_t 5 off num cs ty ro rn rc rt i num (x : Nat) g0 g1 g2 g3 g4 g5 g6 g7 (cod cs off num) (cnt (metB cs off num) num) (trR cs off num) (cnt (metB cs off num) num) ((cnt (metB cs off num) x : Nat) : Int) g0 g1 g2 g3 g4 g5 g6 g7 (cod (trR cs off num) 0 (cnt (metB cs off num) num))) (by delta xv_t; exact rfl) (cx_v5 off num cs ty ro rn rc rt hI hM hr hr0 hr1 (fun i' k' nx' g0 g1 g2 g3 g4 g5 g6 g7 row' tk' ts' bk' ny' h0 h1 h2 h3 h4 h5 h6 h7 bow' => Good Try.prog (boolR true) 2 (uv_F off num cs ty ro rn rc rt i' k' nx' g0 g1 g2 g3 g4 g5 g6 g7 row' tk' ts' bk' ny' h0 h1 h2 h3 h4 h5 h6 h7 bow') (uv_M off num cs ty ro rn rc rt i' k' nx' g0 g1 g2 g3 g4 g5 g6 g7 row' tk' ts' bk' ny' h0 h1 h2 h3 h4 h5 h6 h7 bow')) hi d2 hf c g0 g1 g2 g3 g4 g5 g6 g7 U) (fun _ _ h => h) (fun fs m hb => xv_go (fun _ _ _ _ _ _ _ _ _ _ _ _ _ _ _ _ _ _ _ _ _ _ _ _ _ h => h) hb)
  by_cases c : (ins cs off x).o = 4
  · have U : Good Try.prog (boolR true) 2 (uv_F off num cs ty ro rn rc rt i num (x : Nat) g0 g1 g2 g3 g4 g5 g6 g7 (cod cs off num) (cnt (metB cs off num) num) (trR cs off num) (cnt (metB cs off num) num) ((cnt (metB cs off num) x : Nat) : Int) g0 g1 g2 g3 g4 g5 g6 g7 (cod (trR cs off num) 0 (cnt (metB cs off num) num))) (uv_M off num cs ty ro rn rc rt i num (x : Nat) g0 g1 g2 g3 g4 g5 g6 g7 (cod cs off num) (cnt (metB cs off num) num) (trR cs off num) (cnt (metB cs off num) num) ((cnt (metB cs off num) x : Nat) : Int) g0 g1 g2 g3 g4 g5 g6 g7 (cod (trR cs off num) 0 (cnt (metB cs off num) num))) := vc_go (Fv_ok 6) (t := yv_t 6 off num cs ty ro rn rc rt i num (x : Nat) g0 g1 g2 g3 g4 g5 g6 g7 (cod cs off num) (cnt (metB cs off num) num) (trR cs off num) (cnt (metB cs off num) num) ((cnt (metB cs off num) x : Nat) : Int) g0 g1 g2 g3 g4 g5 g6 g7 (cod (trR cs off num) 0 (cnt (metB cs off num) num))) (by delta yv_t; exact rfl) (cy_v6 off num cs ty ro rn rc rt hI hM hr hr0 hr1 (fun i' k' nx' g0 g1 g2 g3 g4 g5 g6 g7 row' tk' ts' bk' ny' h0 h1 h2 h3 h4 h5 h6 h7 bow' => Good Try.prog (boolR true) 2 (sv_F off num cs ty ro rn rc rt i' k' nx' g0 g1 g2 g3 g4 g5 g6 g7 row' tk' ts' bk' ny' h0 h1 h2 h3 h4 h5 h6 h7 bow') (sv_M off num cs ty ro rn rc rt i' k' nx' g0 g1 g2 g3 g4 g5 g6 g7 row' tk' ts' bk' ny' h0 h1 h2 h3 h4 h5 h6 h7 bow')) hi d2 hf c g0 g1 g2 g3 g4 g5 g6 g7 H) (fun _ _ h => h)
      (fun fs m hb => yv_go (fun i' k' nx' g0 g1 g2 g3 g4 g5 g6 g7 row' tk' ts' bk' ny' h0 h1 h2 h3 h4 h5 h6 h7 bow' h => vc_go (Fv_ok 6) (t := zv_t 6 off num cs ty ro rn rc rt i' k' nx' g0 g1 g2 g3 g4 g5 g6 g7 row' tk' ts' bk' ny' h0 h1 h2 h3 h4 h5 h6 h7 bow') (by delta zv_t; exact rfl) h (fun _ _ h => h) (fun fs m hb => zv_go (fun _ _ _ _ _ _ _ _ _ _ _ _ _ _ _ _ _ _ _ _ _ _ _ _ _ h => h) hb)) hb)
    exact vc_go (Fv_ok 6) (t := xv_t 6 off num cs ty ro rn rc rt i num (x : Nat) g0 g1 g2 g3 g4 g5 g6 g7 (cod cs off num) (cnt (metB cs off num) num) (trR cs off num) (cnt (metB cs off num) num) ((cnt (metB cs off num) x : Nat) : Int) g0 g1 g2 g3 g4 g5 g6 g7 (cod (trR cs off num) 0 (cnt (metB cs off num) num))) (by delta xv_t; exact rfl) (cx_v6 off num cs ty ro rn rc rt hI hM hr hr0 hr1 (fun i' k' nx' g0 g1 g2 g3 g4 g5 g6 g7 row' tk' ts' bk' ny' h0 h1 h2 h3 h4 h5 h6 h7 bow' => Good Try.prog (boolR true) 2 (uv_F off num cs ty ro rn rc rt i' k' nx' g0 g1 g2 g3 g4 g5 g6 g7 row' tk' ts' bk' ny' h0 h1 h2 h3 h4 h5 h6 h7 bow') (uv_M off num cs ty ro rn rc rt i' k' nx' g0 g1 g2 g3 g4 g5 g6 g7 row' tk' ts' bk' ny' h0 h1 h2 h3 h4 h5 h6 h7 bow')) hi d2 hf c g0 g1 g2 g3 g4 g5 g6 g7 U) (fun _ _ h => h) (fun fs m hb => xv_go (fun _ _ _ _ _ _ _ _ _ _ _ _ _ _ _ _ _ _ _ _ _ _ _ _ _ h => h) hb)
  by_cases c : (ins cs off x).o = 5
  · have U : Good Try.prog (boolR true) 2 (uv_F off num cs ty ro rn rc rt i num (x : Nat) g0 g1 g2 g3 g4 g5 g6 g7 (cod cs off num) (cnt (metB cs off num) num) (trR cs off num) (cnt (metB cs off num) num) ((cnt (metB cs off num) x : Nat) : Int) g0 g1 g2 g3 g4 g5 g6 g7 (cod (trR cs off num) 0 (cnt (metB cs off num) num))) (uv_M off num cs ty ro rn rc rt i num (x : Nat) g0 g1 g2 g3 g4 g5 g6 g7 (cod cs off num) (cnt (metB cs off num) num) (trR cs off num) (cnt (metB cs off num) num) ((cnt (metB cs off num) x : Nat) : Int) g0 g1 g2 g3 g4 g5 g6 g7 (cod (trR cs off num) 0 (cnt (metB cs off num) num))) := vc_go (Fv_ok 7) (t := yv_t 7 off num cs ty ro rn rc rt i num (x : Nat) g0 g1 g2 g3 g4 g5 g6 g7 (cod cs off num) (cnt (metB cs off num) num) (trR cs off num) (cnt (metB cs off num) num) ((cnt (metB cs off num) x : Nat) : Int) g0 g1 g2 g3 g4 g5 g6 g7 (cod (trR cs off num) 0 (cnt (metB cs off num) num))) (by delta yv_t; exact rfl) (cy_v7 off num cs ty ro rn rc rt hI hM hr hr0 hr1 (fun i' k' nx' g0 g1 g2 g3 g4 g5 g6 g7 row' tk' ts' bk' ny' h0 h1 h2 h3 h4 h5 h6 h7 bow' => Good Try.prog (boolR true) 2 (sv_F off num cs ty ro rn rc rt i' k' nx' g0 g1 g2 g3 g4 g5 g6 g7 row' tk' ts' bk' ny' h0 h1 h2 h3 h4 h5 h6 h7 bow') (sv_M off num cs ty ro rn rc rt i' k' nx' g0 g1 g2 g3 g4 g5 g6 g7 row' tk' ts' bk' ny' h0 h1 h2 h3 h4 h5 h6 h7 bow')) hi d2 hf c g0 g1 g2 g3 g4 g5 g6 g7 H) (fun _ _ h => h)
      (fun fs m hb => yv_go (fun i' k' nx' g0 g1 g2 g3 g4 g5 g6 g7 row' tk' ts' bk' ny' h0 h1 h2 h3 h4 h5 h6 h7 bow' h => vc_go (Fv_ok 7) (t := zv_t 7 off num cs ty ro rn rc rt i' k' nx' g0 g1 g2 g3 g4 g5 g6 g7 row' tk' ts' bk' ny' h0 h1 h2 h3 h4 h5 h6 h7 bow') (by delta zv_t; exact rfl) h (fun _ _ h => h) (fun fs m hb => zv_go (fun _ _ _ _ _ _ _ _ _ _ _ _ _ _ _ _ _ _ _ _ _ _ _ _ _ h => h) hb)) hb)
    exact vc_go (Fv_ok 7) (t := xv_t 7 off num cs ty ro rn rc rt i num (x : Nat) g0 g1 g2 g3 g4 g5 g6 g7 (cod cs off num) (cnt (metB cs off num) num) (trR cs off num) (cnt (metB cs off num) num) ((cnt (metB cs off num) x : Nat) : Int) g0 g1 g2 g3 g4 g5 g6 g7 (cod (trR cs off num) 0 (cnt (metB cs off num) num))) (by delta xv_t; exact rfl) (cx_v7 off num cs ty ro rn rc rt hI hM hr hr0 hr1 (fun i' k' nx' g0 g1 g2 g3 g4 g5 g6 g7 row' tk' ts' bk' ny' h0 h1 h2 h3 h4 h5 h6 h7 bow' => Good Try.prog (boolR true) 2 (uv_F off num cs ty ro rn rc rt i' k' nx' g0 g1 g2 g3 g4 g5 g6 g7 row' tk' ts' bk' ny' h0 h1 h2 h3 h4 h5 h6 h7 bow') (uv_M off num cs ty ro rn rc rt i' k' nx' g0 g1 g2 g3 g4 g5 g6 g7 row' tk' ts' bk' ny' h0 h1 h2 h3 h4 h5 h6 h7 bow')) hi d2 hf c g0 g1 g2 g3 g4 g5 g6 g7 U) (fun _ _ h => h) (fun fs m hb => xv_go (fun _ _ _ _ _ _ _ _ _ _ _ _ _ _ _ _ _ _ _ _ _ _ _ _ _ h => h) hb)
  by_cases c : (ins cs off x).o = 6
  · have U : Good Try.prog (boolR true) 2 (uv_F off num cs ty ro rn rc rt i num (x : Nat) g0 g1 g2 g3 g4 g5 g6 g7 (cod cs off num) (cnt (metB cs off num) num) (trR cs off num) (cnt (metB cs off num) num) ((cnt (metB cs off num) x : Nat) : Int) g0 g1 g2 g3 g4 g5 g6 g7 (cod (trR cs off num) 0 (cnt (metB cs off num) num))) (uv_M off num cs ty ro rn rc rt i num (x : Nat) g0 g1 g2 g3 g4 g5 g6 g7 (cod cs off num) (cnt (metB cs off num) num) (trR cs off num) (cnt (metB cs off num) num) ((cnt (metB cs off num) x : Nat) : Int) g0 g1 g2 g3 g4 g5 g6 g7 (cod (trR cs off num) 0 (cnt (metB cs off num) num))) := vc_go (Fv_ok 8) (t := yv_t 8 off num cs ty ro rn rc rt i num (x : Nat) g0 g1 g2 g3 g4 g5 g6 g7 (cod cs off num) (cnt (metB cs off num) num) (trR cs off num) (cnt (metB cs off num) num) ((cnt (metB cs off num) x : Nat) : Int) g0 g1 g2 g3 g4 g5 g6 g7 (cod (trR cs off num) 0 (cnt (metB cs off num) num))) (by delta yv_t; exact rfl) (cy_v8 off num cs ty ro rn rc rt hI hM hr hr0 hr1 (fun i' k' nx' g0 g1 g2 g3 g4 g5 g6 g7 row' tk' ts' bk' ny' h0 h1 h2 h3 h4 h5 h6 h7 bow' => Good Try.prog (boolR true) 2 (sv_F off num cs ty ro rn rc rt i' k' nx' g0 g1 g2 g3 g4 g5 g6 g7 row' tk' ts' bk' ny' h0 h1 h2 h3 h4 h5 h6 h7 bow') (sv_M off num cs ty ro rn rc rt i' k' nx' g0 g1 g2 g3 g4 g5 g6 g7 row' tk' ts' bk' ny' h0 h1 h2 h3 h4 h5 h6 h7 bow')) hi d2 hf c g0 g1 g2 g3 g4 g5 g6 g7 H) (fun _ _ h => h)
      (fun fs m hb => yv_go (fun i' k' nx' g0 g1 g2 g3 g4 g5 g6 g7 row' tk' ts' bk' ny' h0 h1 h2 h3 h4 h5 h6 h7 bow' h => vc_go (Fv_ok 8) (t := zv_t 8 off num cs ty ro rn rc rt i' k' nx' g0 g1 g2 g3 g4 g5 g6 g7 row' tk' ts' bk' ny' h0 h1 h2 h3 h4 h5 h6 h7 bow') (by delta zv_t; exact rfl) h (fun _ _ h => h) (fun fs m hb => zv_go (fun _ _ _ _ _ _ _ _ _ _ _ _ _ _ _ _ _ _ _ _ _ _ _ _ _ h => h) hb)) hb)
    exact vc_go (Fv_ok 8) (t := xv_t 8 off num cs ty ro rn rc rt i num (x : Nat) g0 g1 g2 g3 g4 g5 g6 g7 (cod cs off num) (cnt (metB cs off num) num) (trR cs off num) (cnt (metB cs off num) num) ((cnt (metB cs off num) x : Nat) : Int) g0 g1 g2 g3 g4 g5 g6 g7 (cod (trR cs off num) 0 (cnt (metB cs off num) num))) (by delta xv_t; exact rfl) (cx_v8 off num cs ty ro rn rc rt hI hM hr hr0 hr1 (fun i' k' nx' g0 g1 g2 g3 g4 g5 g6 g7 row' tk' ts' bk' ny' h0 h1 h2 h3 h4 h5 h6 h7 bow' => Good Try.prog (boolR true) 2 (uv_F off num cs ty ro rn rc rt i' k' nx' g0 g1 g2 g3 g4 g5 g6 g7 row' tk' ts' bk' ny' h0 h1 h2 h3 h4 h5 h6 h7 bow') (uv_M off num cs ty ro rn rc rt i' k' nx' g0 g1 g2 g3 g4 g5 g6 g7 row' tk' ts' bk' ny' h0 h1 h2 h3 h4 h5 h6 h7 bow')) hi d2 hf c g0 g1 g2 g3 g4 g5 g6 g7 U) (fun _ _ h => h) (fun fs m hb => xv_go (fun _ _ _ _ _ _ _ _ _ _ _ _ _ _ _ _ _ _ _ _ _ _ _ _ _ h => h) hb)
  omega
theorem end_v {i x : Nat} (hx : x ≤ num) (hf : metB cs off num x = true) (h : 300 ≤ i ∨ num ≤ x ∨ (ins cs off x).o = 0) (g0 g1 g2 g3 g4 g5 g6 g7 : Int) : Good Try.prog (boolR true) 2 (sv_F off num cs ty ro rn rc rt i num (x : Nat) g0 g1 g2 g3 g4 g5 g6 g7 (cod cs off num) (cnt (metB cs off num) num) (trR cs off num) (cnt (metB cs off num) num) ((cnt (metB cs off num) x : Nat) : Int) g0 g1 g2 g3 g4 g5 g6 g7 (cod (trR cs off num) 0 (cnt (metB cs off num) num))) (sv_M off num cs ty ro rn rc rt i num (x : Nat) g0 g1 g2 g3 g4 g5 g6 g7 (cod cs off num) (cnt (metB cs off num) num) (trR cs off num) (cnt (metB cs off num) num) ((cnt (metB cs off num) x : Nat) : Int) g0 g1 g2 g3 g4 g5 g6 g7 (cod (trR cs off num) 0 (cnt (metB cs off num) num))) := by
  by_cases h' : 300 ≤ i ∨ num ≤ x
  · exact vc_go (Fv_ok 0) (t := xv_t 0 off num cs ty ro rn rc rt i num (x : Nat) g0 g1 g2 g3 g4 g5 g6 g7 (cod cs off num) (cnt (metB cs off num) num) (trR cs off num) (cnt (metB cs off num) num) ((cnt (metB cs off num) x : Nat) : Int) g0 g1 g2 g3 g4 g5 g6 g7 (cod (trR cs off num) 0 (cnt (metB cs off num) num))) (by delta xv_t; exact rfl) (cx_v0 off num cs ty ro rn rc rt hI hM hr hr0 hr1 (fun _ _ _ _ _ _ _ _ _ _ _ _ _ _ _ _ _ _ _ _ _ _ _ _ _ => False) h' hx g0 g1 g2 g3 g4 g5 g6 g7) (fun _ _ h => h) (fun fs m hb => xv_go (fun _ _ _ _ _ _ _ _ _ _ _ _ _ _ _ _ _ _ _ _ _ _ _ _ _ h => h.elim) hb)
  · exact vc_go (Fv_ok 1) (t := xv_t 1 off num cs ty ro rn rc rt i num (x : Nat) g0 g1 g2 g3 g4 g5 g6 g7 (cod cs off num) (cnt (metB cs off num) num) (trR cs off num) (cnt (metB cs off num) num) ((cnt (metB cs off num) x : Nat) : Int) g0 g1 g2 g3 g4 g5 g6 g7 (cod (trR cs off num) 0 (cnt (metB cs off num) num))) (by delta xv_t; exact rfl) (cx_v1 off num cs ty ro rn rc rt hI hM hr hr0 hr1 (fun _ _ _ _ _ _ _ _ _ _ _ _ _ _ _ _ _ _ _ _ _ _ _ _ _ => False) (by omega) (by omega) hf (by rcases h with h | h | h <;> first | exact h | exact (h' (.inl h)).elim | exact (h' (.inr h)).elim) g0 g1 g2 g3 g4 g5 g6 g7) (fun _ _ h => h) (fun fs m hb => xv_go (fun _ _ _ _ _ _ _ _ _ _ _ _ _ _ _ _ _ _ _ _ _ _ _ _ _ h => h.elim) hb)
theorem round_v : ∀ (K i x : Nat) (g0 g1 g2 g3 g4 g5 g6 g7 : Int), 300 - i < K → x ≤ num → metB cs off num x = true → Good Try.prog (boolR true) 2 (sv_F off num cs ty ro rn rc rt i num (x : Nat) g0 g1 g2 g3 g4 g5 g6 g7 (cod cs off num) (cnt (metB cs off num) num) (trR cs off num) (cnt (metB cs off num) num) ((cnt (metB cs off num) x : Nat) : Int) g0 g1 g2 g3 g4 g5 g6 g7 (cod (trR cs off num) 0 (cnt (metB cs off num) num))) (sv_M off num cs ty ro rn rc rt i num (x : Nat) g0 g1 g2 g3 g4 g5 g6 g7 (cod cs off num) (cnt (metB cs off num) num) (trR cs off num) (cnt (metB cs off num) num) ((cnt (metB cs off num) x : Nat) : Int) g0 g1 g2 g3 g4 g5 g6 g7 (cod (trR cs off num) 0 (cnt (metB cs off num) num))) := by
  intro K
  induction K with
  | zero => intro i x g0 g1 g2 g3 g4 g5 g6 g7 h; omega
  | succ K ih =>
    intro i x g0 g1 g2 g3 g4 g5 g6 g7 hK hx hf
    by_cases h : 300 ≤ i ∨ num ≤ x ∨ (ins cs off x).o = 0
    · exact end_v off num cs ty ro rn rc rt hI hM hr hr0 hr1 hx hf h g0 g1 g2 g3 g4 g5 g6 g7
    · have d1 : i < 300 := by omega
      have d2 : x < num := by omega
      have o0 : (ins cs off x).o ≠ 0 := fun e => h (.inr (.inr e))
      exact go_v off num cs ty ro rn rc rt hI hM hr hr0 hr1 d1 d2 hf o0 g0 g1 g2 g3 g4 g5 g6 g7 (fun y h0 h1 h2 h3 h4 h5 h6 h7 hy => ih (i + 1) y h0 h1 h2 h3 h4 h5 h6 h7 (by omega) (toL_le hI hM x (by omega) y hy) (met_to hI hM hf hy))
theorem cells_v : ∀ (K i : Nat), (cnt (metB cs off num) num) - i < K → Good Try.prog (boolR true) 2 (cv_F off num cs ty ro rn rc rt (i : Int) num 0 0 0 0 0 0 0 0 0 (cod cs off num) (cnt (metB cs off num) num) (trR cs off num) (cnt (metB cs off num) num) 0 0 0 0 0 0 0 0 0 (cod (trR cs off num) 0 (cnt (metB cs off num) num)) (cnt (metB cs off num) num) (trR cs off num)) (cv_M off num cs ty ro rn rc rt (i : Int) num 0 0 0 0 0 0 0 0 0 (cod cs off num) (cnt (metB cs off num) num) (trR cs off num) (cnt (metB cs off num) num) 0 0 0 0 0 0 0 0 0 (cod (trR cs off num) 0 (cnt (metB cs off num) num)) (cnt (metB cs off num) num) (trR cs off num)) := by
  intro K
  induction K with
  | zero => intro i h; omega
  | succ K ih =>
    intro i hK
    have n64 := (mayV_iff.1 hM).1
    have hle := cnt_le (metB cs off num) num
    refine past_vc (Fv_ok 0) 1000 (dv_vc off num cs ty ro rn rc rt i num 0 0 0 0 0 0 0 0 0 (cod cs off num) (cnt (metB cs off num) num) (trR cs off num) (cnt (metB cs off num) num) 0 0 0 0 0 0 0 0 0 (cod (trR cs off num) 0 (cnt (metB cs off num) num)) (cnt (metB cs off num) num) (trR cs off num) (fun i' k' nx' g0 g1 g2 g3 g4 g5 g6 g7 row' tk' ts' bk' ny' h0 h1 h2 h3 h4 h5 h6 h7 bow' uk' us' => Good Try.prog (boolR true) 2 (cv_F off num cs ty ro rn rc rt i' k' nx' g0 g1 g2 g3 g4 g5 g6 g7 row' tk' ts' bk' ny' h0 h1 h2 h3 h4 h5 h6 h7 bow' uk' us') (cv_M off num cs ty ro rn rc rt i' k' nx' g0 g1 g2 g3 g4 g5 g6 g7 row' tk' ts' bk' ny' h0 h1 h2 h3 h4 h5 h6 h7 bow' uk' us')) (fun i' k' nx' g0 g1 g2 g3 g4 g5 g6 g7 row' tk' ts' bk' ny' h0 h1 h2 h3 h4 h5 h6 h7 bow' => Good Try.prog (boolR true) 2 (sv_F off num cs ty ro rn rc rt i' k' nx' g0 g1 g2 g3 g4 g5 g6 g7 row' tk' ts' bk' ny' h0 h1 h2 h3 h4 h5 h6 h7 bow') (sv_M off num cs ty ro rn rc rt i' k' nx' g0 g1 g2 g3 g4 g5 g6 g7 row' tk' ts' bk' ny' h0 h1 h2 h3 h4 h5 h6 h7 bow'))) ?_ (fun _ _ h => h) (fun fs m hb => dv_go (fun _ _ _ _ _ _ _ _ _ _ _ _ _ _ _ _ _ _ _ _ _ _ _ _ _ _ _ h => h) (fun _ _ _ _ _ _ _ _ _ _ _ _ _ _ _ _ _ _ _ _ _ _ _ _ _ h => h) hb)
    rw [Int.toNat_natCast]
    by_cases hi : i < (cnt (metB cs off num) num)
    · have e1 : decide ((i : Int) < ((cnt (metB cs off num) num) : Int)) = true := decide_eq_true (by omega)
      have w : (0 : Int) ≤ (i : Int) ∧ (i : Int) < ((cnt (metB cs off num) num) : Int) := by omega
      obtain ⟨⟨i1, i2, i3, i4, i5⟩, _⟩ := (tr_ok hI hM).2 i hi
      have ia : ari BinOp.add IntKind.i64 (i : Int) 1 = ((i + 1 : Nat) : Int) := i64_add1 (by omega)
      simp only [e1, w, i1, i2, i3, i4, i5, ia, cv_d0_ok, Bool.not_true, Bool.not_false, Bool.true_eq_false, Bool.false_eq_true, false_implies, true_implies, true_and, and_true, beq_self_eq_true, Bool.and_self, eq_self, decide_true, decide_false, luv_eq, lcv_eq, lsv_eq]
      exact ih (i + 1) (by omega)
    · have e1 : decide ((i : Int) < ((cnt (metB cs off num) num) : Int)) = false := decide_eq_false (by omega)
      simp only [e1, sv_d0_ok, Bool.not_true, Bool.not_false, Bool.true_eq_false, Bool.false_eq_true, false_implies, true_implies, true_and, and_true, beq_self_eq_true, Bool.and_self, eq_self, decide_true, decide_false, luv_eq, lcv_eq, lsv_eq]
      exact round_v off num cs ty ro rn rc rt hI hM hr hr0 hr1 301 0 0 0 0 0 0 0 0 0 0 (by omega) (Nat.zero_le _) ((met_iff hI hM).2 (.refl (by decide)))
end
theorem same_v (off num : Nat) (cs : Array Value) (ty : TypeId) (ro rn : Nat) (rc : Array Value) (rt : TypeId) (hr : rn ≤ 60 → RtOk rc ro rn) (hr0 : rn ≠ 0) (hI : num ≤ 200 → InsOk cs off num) (h0 : num ≠ 0) : Good Try.prog (boolR true) 2 [callFr 4 Try.f4.ntmps [prS off num, rsT ro rn] (Try.f4.body.getD .skip)] (mkM 2 [(0, ⟨.raw cs, ty, false⟩), (1, ⟨.raw rc, rt, false⟩)]) := by
  refine run_vc (Fv_ok 0) 8000 (bv_vc off num cs ty ro rn rc rt (fun i' k' nx' g0 g1 g2 g3 g4 g5 g6 g7 row' tk' ts' bk' ny' h0 h1 h2 h3 h4 h5 h6 h7 bow' uk' us' => Good Try.prog (boolR true) 2 (cv_F off num cs ty ro rn rc rt i' k' nx' g0 g1 g2 g3 g4 g5 g6 g7 row' tk' ts' bk' ny' h0 h1 h2 h3 h4 h5 h6 h7 bow' uk' us') (cv_M off num cs ty ro rn rc rt i' k' nx' g0 g1 g2 g3 g4 g5 g6 g7 row' tk' ts' bk' ny' h0 h1 h2 h3 h4 h5 h6 h7 bow' uk' us'))) ?_ (fun _ _ h => h) (fun fs m hb => bv_go (fun _ _ _ _ _ _ _ _ _ _ _ _ _ _ _ _ _ _ _ _ _ _ _ _ _ _ _ h => h) hb)
  by_cases h2 : num ≤ 200
  · have e1 : decide ((num : Int) > 200) = false := decide_eq_false (by omega)
    by_cases h3 : rn ≤ 60
    rotate_left
    · have e2 : decide ((rn : Int) > 60) = true := decide_eq_true (by omega)
      simp only [e1, e2, Bool.not_true, Bool.not_false, Bool.true_eq_false, Bool.false_eq_true, false_implies, true_implies, true_and, and_true, beq_self_eq_true, Bool.and_self, eq_self, decide_true, decide_false, luv_eq, lcv_eq, lsv_eq]
    have e2 : decide ((rn : Int) > 60) = false := decide_eq_false (by omega)
    have hr := hr h3
    have hr1 := h3
    have hI := hI h2
    cases hM : mayV cs off num with
    | false => simp only [e1, e2, hI, h0, hM, beqT, beqF, Bool.not_true, Bool.not_false, Bool.true_eq_false, Bool.false_eq_true, false_implies, true_implies, true_and, and_true, beq_self_eq_true, Bool.and_self, eq_self, decide_true, decide_false, luv_eq, lcv_eq, lsv_eq, ne_eq, not_false_eq_true]
    | true =>
      have a1 := tr_size hI hM
      have a2 := tr_ok hI hM
      have a3 := tr_may hI hM
      have hf0 : metB cs off num 0 = true := (met_iff hI hM).2 (.refl (by decide))
      have a4 : (cnt (metB cs off num) num) ≠ 0 := by have := cnt_lt hf0 (show 0 < num by omega); omega
      have a5 := tr_cnt hI hM (Nat.le_refl _)
      have a6 := tr_tr hI hM
      have C := cells_v off num cs ty ro rn rc rt hI hM hr hr0 hr1 1000 0 (by have := cnt_le (metB cs off num) num; omega)
      simp only [e1, e2, hI, h0, hM, a1, a2, a3, a4, a5, a6, bne_self_eq_false, beqT, beqF, cv_d0_ok, Bool.not_true, Bool.not_false, Bool.true_eq_false, Bool.false_eq_true, false_implies, true_implies, true_and, and_true, beq_self_eq_true, Bool.and_self, eq_self, decide_true, decide_false, luv_eq, lcv_eq, lsv_eq, ne_eq, not_false_eq_true]
      exact C
  · have e1 : decide ((num : Int) > 200) = true := decide_eq_true (by omega)
    simp only [e1, beqT, beqF, Bool.not_true, Bool.not_false, Bool.true_eq_false, Bool.false_eq_true, false_implies, true_implies, true_and, and_true, beq_self_eq_true, Bool.and_self, eq_self, decide_true, decide_false, luv_eq, lcv_eq, lsv_eq]
end Go.Proofs.Ytpohnmafnpnmeaa
/- Of flow: FlowRuns of a program that is empty: its environment. No condition. -/
namespace Go.Proofs.Ytpohnmafnpnmeaa
noncomputable section
def conZ (g : FuncId) (l : List SV) (m : SMem) : Option Tree := match g, l with
  | 6, [] => some (needs [] (.ret (sB (.l true)) m))
  | _, _ => none
def EZ : Env := ⟨Try.prog, fnOf, conZ, fun _ _ _ => false⟩
def e0V : SV := .s (.c (.f .e0))
end
theorem conZ_ok (g : FuncId) (l : List SV) (m : SMem) (t : Tree) (h : conZ g l m = some t) : Con E0 g l m t := by
  unfold conZ at h
  split at h
  · exact conA_ok 6 [] _ _ h
  · cases h
theorem EZ_ok : EnvOk EZ := EnvOk.with E0_ok _ _ conZ_ok
end Go.Proofs.Ytpohnmafnpnmeaa
/- Of flow: FlowSame of a program that is empty. -/
namespace Go.Proofs.Ytpohnmafnpnmeaa
set_option maxRecDepth 100000
theorem se_vc (_z : Nat) : (run EZ 8000 1 [callFr 4 Try.f4.ntmps [e0V, e0V] (Try.f4.body.getD .skip)] (mkM 1 [])).vc (boolR true) (fun _ _ => False) =
    (true = true) := by kernel_rfl
theorem sr_vc (ro rn : Nat) (rc : Array Value) (rt : TypeId) : (run EZ 8000 1 [callFr 4 Try.f4.ntmps [e0V, prS ro rn] (Try.f4.body.getD .skip)] (rawM rc rt)).vc (boolR true) (fun _ _ => False) =
    ((decide ((↑rn : Int) > (60 : Int)) = true → true = true) ∧ (decide ((↑rn : Int) > (60 : Int)) = false → true = true)) := by kernel_rfl
end Go.Proofs.Ytpohnmafnpnmeaa
/- How a call of data enters the symbolic machine, and how what it leaves is told; without package-level variables. No condition. -/
namespace Go.Proofs.Ytpohnmafnpnmeaa
noncomputable section
open Go.ChangeShapes Go.WideShapes Go.ChangeAt Go.RowKit Go.Deep
theorem own : ownKnob Try.prog.godebug = none := by kernel_rfl
theorem laidOut : laidOutB Try.prog = true := by kernel_rfl
theorem sub_get {l : List Value} {a b o : Nat} {v : Value} (h : ((l.drop a).take b)[o]? = some v) : l[a + o]? = some v := by
  rw [List.getElem?_take] at h
  split at h
  · rw [List.getElem?_drop] at h; exact h
  · cases h
theorem sub_one {l : List Value} {a b : Nat} {v : Value} (h : (l.drop a).take b = [v]) : l[a]? = some v := by
  have : ((l.drop a).take b)[0]? = some v := by rw [h]; rfl
  exact sub_get this
section
variable {H : Type} {enc : TypeId × Value → H} {P : Program} {w : World} {base : Nat} {spare : Nat → Bool} {held : Bool}
theorem field_of {t : TypeId} {fs : Array Field} {fuel : Nat} {cs : List Value} {x : DataW H × List MemPlace} (ht : P.underlying t = some (.struct fs)) (h : DataW.trod enc P w base spare held fuel t cs = some x)
    (i : Nat) {f : Field} (hf : fs[i]? = some f) : ∃ n y, DataW.trod enc P w base spare held n f.type ((cs.drop f.offset).take (P.cellsOf f.type)) = some y := by
  obtain ⟨ys, n, _, _, _, hyl, hg⟩ := DataW.trod_struct ht h
  have hlt : i < fs.size := (Array.getElem?_eq_some_iff.1 hf).1
  have hys : ys[i]? = some (ys[i]'(by omega)) := List.getElem?_eq_getElem (by omega)
  exact ⟨n, _, (hg i f hf).trans hys⟩
theorem add_none (b off n : Nat) : (⟨b, off, none⟩ : Addr).add n = ⟨b, off + n, none⟩ := by
  unfold Addr.add
  split
  · rename_i e; subst e; rfl
  · rfl
theorem slice_cells {t e : TypeId} {base' C : Nat} {fuel : Nat} {A : Option Addr} {len cap : Nat} {x : DataW H × List MemPlace} (ht : P.underlying t = some (.slice e)) (hC : P.cellsOf e = C)
    (hok : Value.okWide P w .any base t (.slice A len cap)) (h : DataW.trod enc P w base' (fun _ => true) held fuel t [.slice A len cap] = some x) :
    (A = none ∧ len = 0 ∧ cap = 0) ∨ ∃ b off cs ty fz, A = some ⟨b, off, none⟩ ∧ len ≤ cap ∧ cap ≤ maxLen ∧ w.heap[b]? = some (.cells cs ty fz) ∧
      ∀ j, j < len → ∃ n y, DataW.trod enc P w base' (fun _ => true) held n e ((cs.toList.drop (off + j * C)).take C) = some y := by
  rcases open_slice ht h with ⟨hcs, hx⟩ | ⟨a, len', cap', m, n, D, Pl, hcs, _, hl, hmx, hm, hx, hi⟩
  · simp at hcs
    exact .inl hcs
  · simp at hcs
    obtain ⟨rfl, rfl, rfl⟩ := hcs
    simp at hm
    subst hm
    obtain ⟨b, off, spot⟩ := a
    simp only [Value.okWide, ht, Cell.okWide, Cell.ok] at hok
    obtain ⟨_, _, _, hs, _, _, hsh, _⟩ := hok
    have hs : spot = none := hs
    subst hs
    cases ho : w.heap[b]? with
    | none => simp [World.shape?, ho] at hsh
    | some o =>
      have hcells : ∃ cs ty fz, o = .cells cs ty fz := by
        cases o <;> first | exact ⟨_, _, _, rfl⟩ | simp [World.shape?, ho] at hsh
      obtain ⟨cs, ty, fz, rfl⟩ := hcells
      refine .inr ⟨b, off, cs, ty, fz, rfl, hl, hmx, ho, fun j hj => ?_⟩
      obtain ⟨cs', hc, ht'⟩ := hi j (by omega)
      rw [hC] at hc
      obtain ⟨_, hcl, hat⟩ := World.cells?_some hc
      refine ⟨n, (D j, Pl j), ?_⟩
      rw [← ht']
      congr 1
      apply List.ext_getElem?
      intro i
      rw [List.getElem?_take]
      by_cases hi' : i < C
      · rw [if_pos hi', ← hat i hi', add_none, add_none]
        simp [World.cell?, ho, Nat.add_assoc]
      · rw [if_neg hi', List.getElem?_eq_none (by omega)]
theorem post_of_below {f : Func} {s : ChangeSpec} {apart fresh handsOn again : Bool} {W W' : World} {args : Array Value} {v : Value} {ds gs : List (DataW H)} {before pa pv : List MemPlace}
    (hW : DataW.Whole enc P f.params.toList s.vars apart W args.toList ds gs before)
    (hres : ∀ (b : Nat) (sp : Nat → Bool) (hd : Bool), DataW.TrodAll enc P W' b sp hd f.resultTypes.toList (v.resultList f.resultTypes.size) (s.fn H (ds ++ gs)).results [])
    (hargs : ∀ sp : Nat → Bool, (∀ p ∈ before, sp p.block = true) → DataW.TrodAll enc P W' 0 sp true f.params.toList args.toList (s.fn H (ds ++ gs)).args pa)
    (hvars : ∀ sp : Nat → Bool, (∀ p ∈ before, sp p.block = true) → DataW.TrodVars enc P W' sp s.vars (s.fn H (ds ++ gs)).vars pv)
    (hps : before = pa ++ pv) (hb : Below W.heap.size W W')
    (hok : ∀ (j : Nat) (t : TypeId) (r : Value), f.resultTypes[j]? = some t → (v.resultList f.resultTypes.size)[j]? = some r → Value.okWide P W' .any 0 t r) :
    s.post enc P f apart fresh handsOn again W args v W' := by
  have hlt : ∀ p ∈ before, p.block < W.heap.size := fun p hp => hW.lt p hp
  have hold : ∀ p ∈ before, (fun b => decide (b < W.heap.size)) p.block = true := fun p hp => by simpa using hlt p hp
  refine ⟨ds, gs, before, [], pa, pv, hW, hres _ _ _, hargs _ hold, hvars _ hold, World.keptBut_mono (fun p hp => ⟨hp, ?_⟩) (hb.frame (· ∈ before)), fun _ => ?_⟩
  · rw [hps, List.mem_append] at hp
    exact Or.inr hp
  · obtain ⟨_, _, _, _, _, hz, hn⟩ := hW
    refine ⟨hok, _, _, ([] ++ pa) ++ pv, ⟨[] ++ pa, pv, trodAll_append (hargs _ (fun _ _ => rfl)) (hres _ _ _), hvars _ (fun _ _ => rfl), rfl, ?_, ?_⟩, ?_⟩
    · intro b off hp
      have hin : MemPlace.cell b off ∈ before := by rw [hps]; simpa using hp
      rw [hb.frozen (hlt _ hin)]
      exact hz b off hin
    · intro ha
      have := hn ha
      rw [hps] at this
      simpa using this
    · intro p hp _
      rw [hps]
      simpa using hp
end
theorem below_of {n0 : Nat} {w0 w : World} (h : BelowF n0 (fun _ => False) w0 w) : Below n0 w0 w := ⟨h.os, h.tape, h.output, h.size, fun k hk => h.block k hk fun x => x⟩
theorem rel_empty (hg : glTab = []) (W : World) (n : Nat) : Rel W.heap.size (fun _ => False) W (fun _ => none) ⟨n, .nil, []⟩ W :=
  ⟨fun _ _ _ _ _ _ h => by (cases h), fun _ _ h => by (cases h), fun _ _ h => by (cases h), fun i b h => by (have h : (Tr.nil : Tr SBlk).get i = some b := h; rw [Tr.get_nil] at h; cases h), Nat.le_refl _, BelowF.refl _ _ _,
    fun _ _ h => by (cases h), fun _ _ _ _ _ _ h => by (cases h), fun g cs h => by rw [hg] at h; cases h⟩
def oneD (ds : Array Value) (ty : TypeId) : SMem := ⟨1, Tr.node .nil (some ⟨.raw ds, ty, false⟩) .nil, []⟩
theorem one_get {ds : Array Value} {ty : TypeId} {i : Nat} {b : SBlk} (h : getB (oneD ds ty).bl i = some b) : i = 0 ∧ b = ⟨.raw ds, ty, false⟩ := by
  unfold getB oneD at h
  cases i with
  | zero => cases h; exact ⟨rfl, rfl⟩
  | succ i =>
    rw [Tr.get_succ, Tr.get_nil, ite_self] at h
    cases h
theorem rel_one (hg : glTab = []) {W : World} {b : Nat} {cs : Array Value} {ty : TypeId} {fz : Nat × Nat} (hb : W.heap[b]? = some (.cells cs ty fz)) :
    Rel W.heap.size (fun _ => False) W (fun i => if i = 0 then some ⟨b, cs.size⟩ else none) (oneD cs ty) W := by
  have key : ∀ {i : Nat} {g : Loc}, (if i = 0 then some (⟨b, cs.size⟩ : Loc) else none) = some g → i = 0 ∧ g = ⟨b, cs.size⟩ := by
    intro i g h
    split at h
    · rename_i e; cases h; exact ⟨e, rfl⟩
    · cases h
  have hlt : b < W.heap.size := (Array.getElem?_eq_some_iff.1 hb).1
  refine ⟨fun i j g h b c h1 h2 _ _ _ _ => by rw [(key h1).1, (key h2).1], fun i g h => by rw [(key h).2]; exact hlt, fun i g h => by rw [(key h).1]; exact Nat.zero_lt_one, fun i c hc => ?_, Nat.le_refl _, BelowF.refl _ _ _,
    fun _ _ h => by (cases h), fun _ _ _ _ _ _ _ _ _ h => by (cases h), fun g cs h => by rw [hg] at h; cases h⟩
  obtain ⟨rfl, rfl⟩ := one_get hc
  exact ⟨⟨b, cs.size⟩, cs, fz, rfl, hb, rfl, rfl, fun h => by cases h⟩
end
end Go.Proofs.Ytpohnmafnpnmeaa
/- Of flow: rows of instructions that came in. No condition. -/
namespace Go.Proofs.Ytpohnmafnpnmeaa
set_option maxRecDepth 100000
open Go.ChangeShapes Go.WideShapes Go.ChangeAt Go.RowKit Go.Deep
theorem cells52 : Try.prog.cellsOf 52 = 5 := by kernel_rfl
theorem gl_nil : glTab = [] := rfl
theorem isInt_of {k : IntKind} {cs : Array Value} {i : Nat} {n : Int} (h : cs.toList[i]? = some (.int k n)) : IsInt k cs i ∧ intAt cs i = n := by
  rw [Array.getElem?_toList] at h
  exact ⟨isI_of h, intAt_of h⟩
theorem wf_u8 {n : Int} (h : (Lit.int .u8 n).wf = true) : 0 ≤ n ∧ n ≤ 255 := by
  simp only [Lit.wf, Bool.and_eq_true, decide_eq_true_eq] at h
  exact h
theorem wf_u16 {n : Int} (h : (Lit.int .u16 n).wf = true) : 0 ≤ n ∧ n ≤ 65535 := by
  simp only [Lit.wf, Bool.and_eq_true, decide_eq_true_eq] at h
  exact h
theorem ins_of {H : Type} {enc : TypeId × Value → H} {W : World} {base : Nat} {held : Bool} {n : Nat} {cs : Array Value} {off i : Nat} {y : DataW H × List MemPlace}
    (h : DataW.trod enc Try.prog W base (fun _ => true) held n 52 ((cs.toList.drop (off + i * 5)).take 5) = some y) : InsAt cs (off + i * 5) ∧ (ins cs off i).In := by
  obtain ⟨n0, y0, h0⟩ := field_of Try.underlying52 h 0 rfl
  obtain ⟨n1, y1, h1⟩ := field_of Try.underlying52 h 1 rfl
  obtain ⟨n2, y2, h2⟩ := field_of Try.underlying52 h 2 rfl
  obtain ⟨n3, y3, h3⟩ := field_of Try.underlying52 h 3 rfl
  obtain ⟨n4, y4, h4⟩ := field_of Try.underlying52 h 4 rfl
  obtain ⟨m0, e0, _, w0⟩ := DataW.trod_int Try.underlying5 h0
  obtain ⟨m1, e1, _, w1⟩ := DataW.trod_int Try.underlying5 h1
  obtain ⟨m2, e2, _, w2⟩ := DataW.trod_int Try.underlying5 h2
  obtain ⟨m3, e3, _, w3⟩ := DataW.trod_int Try.underlying5 h3
  obtain ⟨m4, e4, _, w4⟩ := DataW.trod_int Try.underlying50 h4
  obtain ⟨a0, b0⟩ := isInt_of (sub_get (sub_one e0))
  obtain ⟨a1, b1⟩ := isInt_of (sub_get (sub_one e1))
  obtain ⟨a2, b2⟩ := isInt_of (sub_get (sub_one e2))
  obtain ⟨a3, b3⟩ := isInt_of (sub_get (sub_one e3))
  obtain ⟨a4, b4⟩ := isInt_of (sub_get (sub_one e4))
  refine ⟨⟨a0, a1, a2, a3, a4⟩, ?_⟩
  have w0 := wf_u8 w0
  have w1 := wf_u8 w1
  have w2 := wf_u8 w2
  have w3 := wf_u8 w3
  have w4 := wf_u16 w4
  rw [← b0] at w0
  rw [← b1] at w1
  rw [← b2] at w2
  rw [← b3] at w3
  rw [← b4] at w4
  exact ⟨w0, w1, w2, w3, w4⟩
def InsIn (W : World) (v : Value) : Prop :=
  (∃ a c, v = .slice a 0 c) ∨ ∃ b off n cap cs ty fz, v = .slice (some ⟨b, off, none⟩) n cap ∧ n ≠ 0 ∧ n ≤ cap ∧ W.heap[b]? = some (.cells cs ty fz) ∧ (n ≤ 200 → InsOk cs off n)
theorem ins_in {H : Type} {enc : TypeId × Value → H} {W : World} {base base' : Nat} {fuel : Nat} {v : Value} {held : Bool} {x : DataW H × List MemPlace}
    (hok : Value.okWide Try.prog W .any base 22 v) (h : DataW.trod enc Try.prog W base' (fun _ => true) held fuel 22 [v] = some x) : InsIn W v := by
  obtain ⟨A, len, cap, rfl⟩ := okWide_slice Try.underlying22 hok
  rcases slice_cells Try.underlying22 cells52 hok h with ⟨rfl, rfl, rfl⟩ | ⟨b, off, cs, ty, fz, rfl, hl, _, ho, hj⟩
  · exact .inl ⟨_, _, rfl⟩
  · by_cases h0 : len = 0
    · subst h0; exact .inl ⟨_, _, rfl⟩
    · refine .inr ⟨b, off, len, cap, cs, ty, fz, rfl, h0, hl, ho, fun hn => ⟨by omega, fun i hi => ?_⟩⟩
      obtain ⟨n, y, hy⟩ := hj i hi
      exact ins_of hy
theorem boolR_true {R : Ren} {s : SV} {m : SMem} {v : Value} (h : boolR true s m) (hv : s.ok R v) : v = .bool true := by
  unfold boolR at h
  split at h
  · have hv : v = .bool _ := hv
    rw [hv, h]
  · exact h.elim
theorem calls_of {W : World} {g : FuncId} {fn : Func} {c : Code} {l : List SV} {args : Array Value} {m : SMem} {R : Ren} (h1 : Try.prog.funcs[g]? = some fn) (h2 : fn.body = some c) (hg : Good Try.prog (boolR true) m.next [callFr g fn.ntmps l c] m) (hl : All2 (SV.ok R) l args.toList) (hR : Rel W.heap.size (fun _ => False) W R m W) :
    Calls Try.prog g args W fun e w' => e = .returned (.bool true) ∧ Below W.heap.size W w' := by
  have h := answers_of_good h1 h2 hg hl hR
  unfold Answers at h
  refine h.mono ?_
  rintro e w' ⟨v, rfl, s', m', R', hr, _, hR', hv⟩
  exact ⟨by rw [boolR_true hr hv], below_of hR'.fr⟩
def OnlyRead (m : SMem) : Prop := m.xs = [] ∧ ∀ i b, getB m.bl i = some b → b.wr = false
theorem rel_add {W : World} {R : Ren} {m : SMem} (hR : Rel W.heap.size (fun _ => False) W R m W) (ho : OnlyRead m) {i b : Nat} {cs : Array Value} {ty : TypeId} {fz : Nat × Nat} (hi : i < m.next) (hn : R i = none) (hb : W.heap[b]? = some (.cells cs ty fz)) :
    Rel W.heap.size (fun _ => False) W (fun j => if j = i then some ⟨b, cs.size⟩ else R j) ⟨m.next, m.bl.set i (some ⟨.raw cs, ty, false⟩), m.xs⟩ W ∧ OnlyRead ⟨m.next, m.bl.set i (some ⟨.raw cs, ty, false⟩), m.xs⟩ := by
  have ho' : OnlyRead ⟨m.next, m.bl.set i (some ⟨.raw cs, ty, false⟩), m.xs⟩ := by
    refine ⟨ho.1, fun j c hc => ?_⟩
    have hc : (m.bl.set i (some ⟨.raw cs, ty, false⟩)).get j = some c := hc
    rw [Tr.get_set] at hc
    split at hc
    · cases hc; rfl
    · exact ho.2 j c hc
  have hlt : b < W.heap.size := (Array.getElem?_eq_some_iff.1 hb).1
  refine ⟨⟨fun j k g h x y h1 h2 h3 h4 h5 h6 => ?_, fun j g h => ?_, fun j g h => ?_, fun j c hc => ?_, Nat.le_refl _, BelowF.refl _ _ _, fun j x hx => ?_, fun j k g h x y _ _ _ h4 => ?_, fun g cs hg => ?_⟩, ho'⟩
  · have e1 := ho'.2 _ _ h4
    have e2 := ho'.2 _ _ h5
    rw [e1, e2] at h6
    rcases h6 with h6 | h6 <;> cases h6
  · split at h
    · cases h; exact hlt
    · exact hR.lt j g h
  · split at h
    · rename_i e; rw [e]; exact hi
    · exact hR.nx j g h
  · have hc : (m.bl.set i (some ⟨.raw cs, ty, false⟩)).get j = some c := hc
    rw [Tr.get_set] at hc
    split at hc
    · rename_i e
      cases hc
      exact ⟨⟨b, cs.size⟩, cs, fz, by simp [e], hb, rfl, rfl, fun h => by cases h⟩
    · rename_i e
      obtain ⟨g, cs', fz', k1, k2, k3, k4, k5⟩ := hR.blk j c hc
      refine ⟨g, cs', fz', by simp [e, k1], k2, k3, SA.monoM (fun l g hl => ?_) k4, k5⟩
      by_cases el : l = i
      · rw [el, hn] at hl; cases hl
      · rw [if_neg el]; exact hl
  · have hx : getX m.xs j = some x := hx
    rw [ho.1] at hx; cases hx
  · have h4 : getX m.xs j = some x := h4
    rw [ho.1] at h4; cases h4
  · exact hR.gl g cs hg
theorem onlyRead_nil (n : Nat) : OnlyRead ⟨n, .nil, []⟩ := ⟨rfl, fun i b h => by
  have h : (Tr.nil : Tr SBlk).get i = some b := h
  rw [Tr.get_nil] at h; cases h⟩
theorem rel_two {W : World} {b1 b2 : Nat} {cs ds : Array Value} {t1 t2 : TypeId} {f1 f2 : Nat × Nat} (h1 : W.heap[b1]? = some (.cells cs t1 f1)) (h2 : W.heap[b2]? = some (.cells ds t2 f2)) :
    Rel W.heap.size (fun _ => False) W (fun j => if j = 1 then some ⟨b2, ds.size⟩ else if j = 0 then some ⟨b1, cs.size⟩ else none) (mkM 2 [(0, ⟨.raw cs, t1, false⟩), (1, ⟨.raw ds, t2, false⟩)]) W := by
  obtain ⟨r1, o1⟩ := rel_add (rel_empty gl_nil W 2) (onlyRead_nil 2) (i := 0) (by decide) rfl h1
  obtain ⟨r2, _⟩ := rel_add r1 o1 (i := 1) (show 1 < 2 by omega) rfl h2
  exact r2
theorem cells42 : Try.prog.cellsOf 42 = 3 := by kernel_rfl
def ResIn (W : World) (v : Value) : Prop :=
  (∃ a c, v = .slice a 0 c) ∨ ∃ b off n cap cs ty fz, v = .slice (some ⟨b, off, none⟩) n cap ∧ n ≠ 0 ∧ n ≤ cap ∧ W.heap[b]? = some (.cells cs ty fz) ∧ RtOk cs off n
theorem res_of {H : Type} {enc : TypeId × Value → H} {W : World} {base : Nat} {held : Bool} {n : Nat} {cs : Array Value} {p : Nat} {y : DataW H × List MemPlace}
    (h : DataW.trod enc Try.prog W base (fun _ => true) held n 42 ((cs.toList.drop p).take 3) = some y) : IsInt .i64 cs p ∧ IsInt .u64 cs (p + 1) ∧ IsInt .u32 cs (p + 2) := by
  obtain ⟨n0, y0, h0⟩ := field_of Try.underlying42 h 0 rfl
  obtain ⟨n1, y1, h1⟩ := field_of Try.underlying42 h 1 rfl
  obtain ⟨n2, y2, h2⟩ := field_of Try.underlying42 h 2 rfl
  obtain ⟨_, e0, _, w0⟩ := DataW.trod_int Try.underlying32 h0
  obtain ⟨_, e1, _, w1⟩ := DataW.trod_int Try.underlying25 h1
  obtain ⟨_, e2, _, w2⟩ := DataW.trod_int Try.underlying40 h2
  exact ⟨(isInt_of (sub_get (sub_one e0))).1, (isInt_of (sub_get (sub_one e1))).1, (isInt_of (sub_get (sub_one e2))).1⟩
theorem res_in {H : Type} {enc : TypeId × Value → H} {W : World} {base base' : Nat} {fuel : Nat} {v : Value} {held : Bool} {x : DataW H × List MemPlace}
    (hok : Value.okWide Try.prog W .any base 23 v) (h : DataW.trod enc Try.prog W base' (fun _ => true) held fuel 23 [v] = some x) : ResIn W v := by
  obtain ⟨A, len, cap, rfl⟩ := okWide_slice Try.underlying23 hok
  rcases slice_cells Try.underlying23 cells42 hok h with ⟨rfl, rfl, rfl⟩ | ⟨b, off, cs, ty, fz, rfl, hl, _, ho, hj⟩
  · exact .inl ⟨_, _, rfl⟩
  · by_cases h0 : len = 0
    · subst h0; exact .inl ⟨_, _, rfl⟩
    · refine .inr ⟨b, off, len, cap, cs, ty, fz, rfl, h0, hl, ho, fun i hi => ?_⟩
      obtain ⟨n, y, hy⟩ := hj i hi
      exact res_of hy
end Go.Proofs.Ytpohnmafnpnmeaa
