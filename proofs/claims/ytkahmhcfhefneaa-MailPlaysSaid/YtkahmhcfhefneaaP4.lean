/- Of mail: how MailPlays ends; all its rounds. No condition. -/
import Derived.Test.YtkahmhcfhefneaaP3a
import Derived.Test.YtkahmhcfhefneaaP3b
import Derived.Test.YtkahmhcfhefneaaP3c
import Derived.Test.YtkahmhcfhefneaaP3d
import Derived.Test.YtkahmhcfhefneaaP3e
import Derived.Test.YtkahmhcfhefneaaPQx
import Derived.Test.YtkahmhcfhefneaaPTx
import Derived.Test.YtkahmhcfhefneaaPSx
namespace Go.Proofs.Ytkahmhcfhefneaa
set_option maxHeartbeats 1000000
section
variable {ds : Array Value} {off n : Nat} {ty : TypeId}
theorem p_e0f {ms : List Msg} {cc : Bool} {w : WL} : Good Try.prog okRet 1 [pFr pTodo off n n] (pM ds ty ms cc w (boxV [] false) false none) := by
  refine Good.of_sub (fs0 := [qFr off n n]) (m0 := qM ds ty [] false none) (base := 1) (π := [(2, 2), (4, 4)]) ?_ ?_
  · rw [s_sub0f]
    exact ⟨rfl, p_tk _, rfl, rfl, rfl, rfl, rfl, rfl, by kernel_rfl, rfl, rfl, trivial⟩
  · refine past_E EL_ok 1000 (q_step0f off n ds ty  n) ?_ (fun _ _ h => h) (fun _ _ h => h.elim)
    exact ⟨decide_eq_false (by omega), trivial⟩
theorem p_e0t {ms : List Msg} {cc : Bool} {w : WL} : Good Try.prog okRet 1 [pFr pTodo off n n] (pM ds ty ms cc w (boxV [] true) true none) := by
  refine Good.of_sub (fs0 := [qFr off n n]) (m0 := qM ds ty [] true none) (base := 1) (π := [(2, 2), (4, 4)]) ?_ ?_
  · rw [s_sub0t]
    exact ⟨rfl, p_tk _, rfl, rfl, rfl, rfl, rfl, rfl, by kernel_rfl, rfl, rfl, trivial⟩
  · refine past_E EL_ok 1000 (q_step0t off n ds ty  n) ?_ (fun _ _ h => h) (fun _ _ h => h.elim)
    exact ⟨decide_eq_false (by omega), trivial⟩
theorem p_e1f {m0 : Msg} {a : Array Value} {o : Nat} {ms : List Msg} {cc : Bool} {w : WL} (hok : MsgsOk [m0]) (hrow : MsgsAt a o [m0]) : Good Try.prog okRet 1 [pFr pTodo off n n] (pM ds ty ms cc w (boxV [m0] false) false (some (a, o, 1))) := by
  refine Good.of_sub (fs0 := [qFr off n n]) (m0 := qM ds ty [m0] false (some (a, o))) (base := 1) (π := [(2, 2), (4, 4), (6, 6)]) ?_ ?_
  · rw [s_sub1f]
    exact ⟨rfl, p_tk _, rfl, rfl, rfl, rfl, rfl, rfl, by kernel_rfl, rfl, rfl, rfl, rfl, rfl, rfl, trivial⟩
  · refine past_E EL_ok 1000 (q_step1f off n ds ty m0 a o n) ?_ (fun _ _ h => h) (fun _ _ h => h.elim)
    have g0 : MsgOk m0 := hok.1
    obtain ⟨gf0, gF0, gr0, gR0⟩ := id g0
    have t0 : MsgAt a (o + 0) m0 := hrow.1
    have x00 : intAt a o = m0.f := (t0.t0 _ (by omega)).2
    have y00 := (t0.t0 o (by omega)).1
    have x01 : intAt a (o + 1) = m0.w := (t0.t1 _ (by omega)).2
    have y01 := (t0.t1 (o + 1) (by omega)).1
    have x02 : intAt a (o + 2) = m0.r := (t0.t2 _ (by omega)).2
    have y02 := (t0.t2 (o + 2) (by omega)).1
    have x03 : boolAt a (o + 3) = m0.s := (t0.t3 _ (by omega)).2
    have y03 := (t0.t3 (o + 3) (by omega)).1
    have e0 : decide ((n : Int) < n) = false := decide_eq_false (by omega)
    simp (disch := omega) only [e0, x00, x01, x02, x03, pi64, beq_self_eq_true, Bool.and_self, Bool.not_true, Bool.false_eq_true, false_implies, true_implies]
    repeat' first
      | exact trivial
      | apply And.intro
      | intro _
      | exact rfl
      | exact y00
      | exact y01
      | exact y02
      | exact y03
theorem p_e1t {m0 : Msg} {a : Array Value} {o : Nat} {ms : List Msg} {cc : Bool} {w : WL} (hok : MsgsOk [m0]) (hrow : MsgsAt a o [m0]) : Good Try.prog okRet 1 [pFr pTodo off n n] (pM ds ty ms cc w (boxV [m0] true) true (some (a, o, 1))) := by
  refine Good.of_sub (fs0 := [qFr off n n]) (m0 := qM ds ty [m0] true (some (a, o))) (base := 1) (π := [(2, 2), (4, 4), (6, 6)]) ?_ ?_
  · rw [s_sub1t]
    exact ⟨rfl, p_tk _, rfl, rfl, rfl, rfl, rfl, rfl, by kernel_rfl, rfl, rfl, rfl, rfl, rfl, rfl, trivial⟩
  · refine past_E EL_ok 1000 (q_step1t off n ds ty m0 a o n) ?_ (fun _ _ h => h) (fun _ _ h => h.elim)
    have g0 : MsgOk m0 := hok.1
    obtain ⟨gf0, gF0, gr0, gR0⟩ := id g0
    have t0 : MsgAt a (o + 0) m0 := hrow.1
    have x00 : intAt a o = m0.f := (t0.t0 _ (by omega)).2
    have y00 := (t0.t0 o (by omega)).1
    have x01 : intAt a (o + 1) = m0.w := (t0.t1 _ (by omega)).2
    have y01 := (t0.t1 (o + 1) (by omega)).1
    have x02 : intAt a (o + 2) = m0.r := (t0.t2 _ (by omega)).2
    have y02 := (t0.t2 (o + 2) (by omega)).1
    have x03 : boolAt a (o + 3) = m0.s := (t0.t3 _ (by omega)).2
    have y03 := (t0.t3 (o + 3) (by omega)).1
    have e0 : decide ((n : Int) < n) = false := decide_eq_false (by omega)
    simp (disch := omega) only [e0, x00, x01, x02, x03, pi64, beq_self_eq_true, Bool.and_self, Bool.not_true, Bool.false_eq_true, false_implies, true_implies]
    repeat' first
      | exact trivial
      | apply And.intro
      | intro _
      | exact rfl
      | exact y00
      | exact y01
      | exact y02
      | exact y03
theorem p_e2f {m0 m1 : Msg} {a : Array Value} {o : Nat} {ms : List Msg} {cc : Bool} {w : WL} (hok : MsgsOk [m0, m1]) (hrow : MsgsAt a o [m0, m1]) : Good Try.prog okRet 1 [pFr pTodo off n n] (pM ds ty ms cc w (boxV [m0, m1] false) false (some (a, o, 2))) := by
  refine Good.of_sub (fs0 := [qFr off n n]) (m0 := qM ds ty [m0, m1] false (some (a, o))) (base := 1) (π := [(2, 2), (4, 4), (6, 6)]) ?_ ?_
  · rw [s_sub2f]
    exact ⟨rfl, p_tk _, rfl, rfl, rfl, rfl, rfl, rfl, by kernel_rfl, rfl, rfl, rfl, rfl, rfl, rfl, trivial⟩
  · refine past_E EL_ok 1000 (q_step2f off n ds ty m0 m1 a o n) ?_ (fun _ _ h => h) (fun _ _ h => h.elim)
    have g0 : MsgOk m0 := hok.1
    obtain ⟨gf0, gF0, gr0, gR0⟩ := id g0
    have t0 : MsgAt a (o + 0) m0 := hrow.1
    have x00 : intAt a o = m0.f := (t0.t0 _ (by omega)).2
    have y00 := (t0.t0 o (by omega)).1
    have x01 : intAt a (o + 1) = m0.w := (t0.t1 _ (by omega)).2
    have y01 := (t0.t1 (o + 1) (by omega)).1
    have x02 : intAt a (o + 2) = m0.r := (t0.t2 _ (by omega)).2
    have y02 := (t0.t2 (o + 2) (by omega)).1
    have x03 : boolAt a (o + 3) = m0.s := (t0.t3 _ (by omega)).2
    have y03 := (t0.t3 (o + 3) (by omega)).1
    have g1 : MsgOk m1 := hok.2.1
    obtain ⟨gf1, gF1, gr1, gR1⟩ := id g1
    have t1 : MsgAt a (o + 4) m1 := hrow.2.1
    have x10 : intAt a (o + 4) = m1.f := (t1.t0 _ (by omega)).2
    have y10 := (t1.t0 (o + 4) (by omega)).1
    have x11 : intAt a (o + 5) = m1.w := (t1.t1 _ (by omega)).2
    have y11 := (t1.t1 (o + 5) (by omega)).1
    have x12 : intAt a (o + 6) = m1.r := (t1.t2 _ (by omega)).2
    have y12 := (t1.t2 (o + 6) (by omega)).1
    have x13 : boolAt a (o + 7) = m1.s := (t1.t3 _ (by omega)).2
    have y13 := (t1.t3 (o + 7) (by omega)).1
    have e0 : decide ((n : Int) < n) = false := decide_eq_false (by omega)
    simp (disch := omega) only [e0, x00, x01, x02, x03, x10, x11, x12, x13, pi64, beq_self_eq_true, Bool.and_self, Bool.not_true, Bool.false_eq_true, false_implies, true_implies]
    repeat' first
      | exact trivial
      | apply And.intro
      | intro _
      | exact rfl
      | exact y00
      | exact y01
      | exact y02
      | exact y03
      | exact y10
      | exact y11
      | exact y12
      | exact y13
theorem p_e2t {m0 m1 : Msg} {a : Array Value} {o : Nat} {ms : List Msg} {cc : Bool} {w : WL} (hok : MsgsOk [m0, m1]) (hrow : MsgsAt a o [m0, m1]) : Good Try.prog okRet 1 [pFr pTodo off n n] (pM ds ty ms cc w (boxV [m0, m1] true) true (some (a, o, 2))) := by
  refine Good.of_sub (fs0 := [qFr off n n]) (m0 := qM ds ty [m0, m1] true (some (a, o))) (base := 1) (π := [(2, 2), (4, 4), (6, 6)]) ?_ ?_
  · rw [s_sub2t]
    exact ⟨rfl, p_tk _, rfl, rfl, rfl, rfl, rfl, rfl, by kernel_rfl, rfl, rfl, rfl, rfl, rfl, rfl, trivial⟩
  · refine past_E EL_ok 1000 (q_step2t off n ds ty m0 m1 a o n) ?_ (fun _ _ h => h) (fun _ _ h => h.elim)
    have g0 : MsgOk m0 := hok.1
    obtain ⟨gf0, gF0, gr0, gR0⟩ := id g0
    have t0 : MsgAt a (o + 0) m0 := hrow.1
    have x00 : intAt a o = m0.f := (t0.t0 _ (by omega)).2
    have y00 := (t0.t0 o (by omega)).1
    have x01 : intAt a (o + 1) = m0.w := (t0.t1 _ (by omega)).2
    have y01 := (t0.t1 (o + 1) (by omega)).1
    have x02 : intAt a (o + 2) = m0.r := (t0.t2 _ (by omega)).2
    have y02 := (t0.t2 (o + 2) (by omega)).1
    have x03 : boolAt a (o + 3) = m0.s := (t0.t3 _ (by omega)).2
    have y03 := (t0.t3 (o + 3) (by omega)).1
    have g1 : MsgOk m1 := hok.2.1
    obtain ⟨gf1, gF1, gr1, gR1⟩ := id g1
    have t1 : MsgAt a (o + 4) m1 := hrow.2.1
    have x10 : intAt a (o + 4) = m1.f := (t1.t0 _ (by omega)).2
    have y10 := (t1.t0 (o + 4) (by omega)).1
    have x11 : intAt a (o + 5) = m1.w := (t1.t1 _ (by omega)).2
    have y11 := (t1.t1 (o + 5) (by omega)).1
    have x12 : intAt a (o + 6) = m1.r := (t1.t2 _ (by omega)).2
    have y12 := (t1.t2 (o + 6) (by omega)).1
    have x13 : boolAt a (o + 7) = m1.s := (t1.t3 _ (by omega)).2
    have y13 := (t1.t3 (o + 7) (by omega)).1
    have e0 : decide ((n : Int) < n) = false := decide_eq_false (by omega)
    simp (disch := omega) only [e0, x00, x01, x02, x03, x10, x11, x12, x13, pi64, beq_self_eq_true, Bool.and_self, Bool.not_true, Bool.false_eq_true, false_implies, true_implies]
    repeat' first
      | exact trivial
      | apply And.intro
      | intro _
      | exact rfl
      | exact y00
      | exact y01
      | exact y02
      | exact y03
      | exact y10
      | exact y11
      | exact y12
      | exact y13
theorem p_e3f {m0 m1 m2 : Msg} {a : Array Value} {o : Nat} {ms : List Msg} {cc : Bool} {w : WL} (hok : MsgsOk [m0, m1, m2]) (hrow : MsgsAt a o [m0, m1, m2]) : Good Try.prog okRet 1 [pFr pTodo off n n] (pM ds ty ms cc w (boxV [m0, m1, m2] false) false (some (a, o, 3))) := by
  refine Good.of_sub (fs0 := [qFr off n n]) (m0 := qM ds ty [m0, m1, m2] false (some (a, o))) (base := 1) (π := [(2, 2), (4, 4), (6, 6)]) ?_ ?_
  · rw [s_sub3f]
    exact ⟨rfl, p_tk _, rfl, rfl, rfl, rfl, rfl, rfl, by kernel_rfl, rfl, rfl, rfl, rfl, rfl, rfl, trivial⟩
  · refine past_E EL_ok 1000 (q_step3f off n ds ty m0 m1 m2 a o n) ?_ (fun _ _ h => h) (fun _ _ h => h.elim)
    have g0 : MsgOk m0 := hok.1
    obtain ⟨gf0, gF0, gr0, gR0⟩ := id g0
    have t0 : MsgAt a (o + 0) m0 := hrow.1
    have x00 : intAt a o = m0.f := (t0.t0 _ (by omega)).2
    have y00 := (t0.t0 o (by omega)).1
    have x01 : intAt a (o + 1) = m0.w := (t0.t1 _ (by omega)).2
    have y01 := (t0.t1 (o + 1) (by omega)).1
    have x02 : intAt a (o + 2) = m0.r := (t0.t2 _ (by omega)).2
    have y02 := (t0.t2 (o + 2) (by omega)).1
    have x03 : boolAt a (o + 3) = m0.s := (t0.t3 _ (by omega)).2
    have y03 := (t0.t3 (o + 3) (by omega)).1
    have g1 : MsgOk m1 := hok.2.1
    obtain ⟨gf1, gF1, gr1, gR1⟩ := id g1
    have t1 : MsgAt a (o + 4) m1 := hrow.2.1
    have x10 : intAt a (o + 4) = m1.f := (t1.t0 _ (by omega)).2
    have y10 := (t1.t0 (o + 4) (by omega)).1
    have x11 : intAt a (o + 5) = m1.w := (t1.t1 _ (by omega)).2
    have y11 := (t1.t1 (o + 5) (by omega)).1
    have x12 : intAt a (o + 6) = m1.r := (t1.t2 _ (by omega)).2
    have y12 := (t1.t2 (o + 6) (by omega)).1
    have x13 : boolAt a (o + 7) = m1.s := (t1.t3 _ (by omega)).2
    have y13 := (t1.t3 (o + 7) (by omega)).1
    have g2 : MsgOk m2 := hok.2.2.1
    obtain ⟨gf2, gF2, gr2, gR2⟩ := id g2
    have t2 : MsgAt a (o + 8) m2 := hrow.2.2.1
    have x20 : intAt a (o + 8) = m2.f := (t2.t0 _ (by omega)).2
    have y20 := (t2.t0 (o + 8) (by omega)).1
    have x21 : intAt a (o + 9) = m2.w := (t2.t1 _ (by omega)).2
    have y21 := (t2.t1 (o + 9) (by omega)).1
    have x22 : intAt a (o + 10) = m2.r := (t2.t2 _ (by omega)).2
    have y22 := (t2.t2 (o + 10) (by omega)).1
    have x23 : boolAt a (o + 11) = m2.s := (t2.t3 _ (by omega)).2
    have y23 := (t2.t3 (o + 11) (by omega)).1
    have e0 : decide ((n : Int) < n) = false := decide_eq_false (by omega)
    simp (disch := omega) only [e0, x00, x01, x02, x03, x10, x11, x12, x13, x20, x21, x22, x23, pi64, beq_self_eq_true, Bool.and_self, Bool.not_true, Bool.false_eq_true, false_implies, true_implies]
    repeat' first
      | exact trivial
      | apply And.intro
      | intro _
      | exact rfl
      | exact y00
      | exact y01
      | exact y02
      | exact y03
      | exact y10
      | exact y11
      | exact y12
      | exact y13
      | exact y20
      | exact y21
      | exact y22
      | exact y23
theorem p_e3t {m0 m1 m2 : Msg} {a : Array Value} {o : Nat} {ms : List Msg} {cc : Bool} {w : WL} (hok : MsgsOk [m0, m1, m2]) (hrow : MsgsAt a o [m0, m1, m2]) : Good Try.prog okRet 1 [pFr pTodo off n n] (pM ds ty ms cc w (boxV [m0, m1, m2] true) true (some (a, o, 3))) := by
  refine Good.of_sub (fs0 := [qFr off n n]) (m0 := qM ds ty [m0, m1, m2] true (some (a, o))) (base := 1) (π := [(2, 2), (4, 4), (6, 6)]) ?_ ?_
  · rw [s_sub3t]
    exact ⟨rfl, p_tk _, rfl, rfl, rfl, rfl, rfl, rfl, by kernel_rfl, rfl, rfl, rfl, rfl, rfl, rfl, trivial⟩
  · refine past_E EL_ok 1000 (q_step3t off n ds ty m0 m1 m2 a o n) ?_ (fun _ _ h => h) (fun _ _ h => h.elim)
    have g0 : MsgOk m0 := hok.1
    obtain ⟨gf0, gF0, gr0, gR0⟩ := id g0
    have t0 : MsgAt a (o + 0) m0 := hrow.1
    have x00 : intAt a o = m0.f := (t0.t0 _ (by omega)).2
    have y00 := (t0.t0 o (by omega)).1
    have x01 : intAt a (o + 1) = m0.w := (t0.t1 _ (by omega)).2
    have y01 := (t0.t1 (o + 1) (by omega)).1
    have x02 : intAt a (o + 2) = m0.r := (t0.t2 _ (by omega)).2
    have y02 := (t0.t2 (o + 2) (by omega)).1
    have x03 : boolAt a (o + 3) = m0.s := (t0.t3 _ (by omega)).2
    have y03 := (t0.t3 (o + 3) (by omega)).1
    have g1 : MsgOk m1 := hok.2.1
    obtain ⟨gf1, gF1, gr1, gR1⟩ := id g1
    have t1 : MsgAt a (o + 4) m1 := hrow.2.1
    have x10 : intAt a (o + 4) = m1.f := (t1.t0 _ (by omega)).2
    have y10 := (t1.t0 (o + 4) (by omega)).1
    have x11 : intAt a (o + 5) = m1.w := (t1.t1 _ (by omega)).2
    have y11 := (t1.t1 (o + 5) (by omega)).1
    have x12 : intAt a (o + 6) = m1.r := (t1.t2 _ (by omega)).2
    have y12 := (t1.t2 (o + 6) (by omega)).1
    have x13 : boolAt a (o + 7) = m1.s := (t1.t3 _ (by omega)).2
    have y13 := (t1.t3 (o + 7) (by omega)).1
    have g2 : MsgOk m2 := hok.2.2.1
    obtain ⟨gf2, gF2, gr2, gR2⟩ := id g2
    have t2 : MsgAt a (o + 8) m2 := hrow.2.2.1
    have x20 : intAt a (o + 8) = m2.f := (t2.t0 _ (by omega)).2
    have y20 := (t2.t0 (o + 8) (by omega)).1
    have x21 : intAt a (o + 9) = m2.w := (t2.t1 _ (by omega)).2
    have y21 := (t2.t1 (o + 9) (by omega)).1
    have x22 : intAt a (o + 10) = m2.r := (t2.t2 _ (by omega)).2
    have y22 := (t2.t2 (o + 10) (by omega)).1
    have x23 : boolAt a (o + 11) = m2.s := (t2.t3 _ (by omega)).2
    have y23 := (t2.t3 (o + 11) (by omega)).1
    have e0 : decide ((n : Int) < n) = false := decide_eq_false (by omega)
    simp (disch := omega) only [e0, x00, x01, x02, x03, x10, x11, x12, x13, x20, x21, x22, x23, pi64, beq_self_eq_true, Bool.and_self, Bool.not_true, Bool.false_eq_true, false_implies, true_implies]
    repeat' first
      | exact trivial
      | apply And.intro
      | intro _
      | exact rfl
      | exact y00
      | exact y01
      | exact y02
      | exact y03
      | exact y10
      | exact y11
      | exact y12
      | exact y13
      | exact y20
      | exact y21
      | exact y22
      | exact y23
theorem p_e4f {m0 m1 m2 m3 : Msg} {a : Array Value} {o : Nat} {ms : List Msg} {cc : Bool} {w : WL} (hok : MsgsOk [m0, m1, m2, m3]) (hrow : MsgsAt a o [m0, m1, m2, m3]) : Good Try.prog okRet 1 [pFr pTodo off n n] (pM ds ty ms cc w (boxV [m0, m1, m2, m3] false) false (some (a, o, 4))) := by
  refine Good.of_sub (fs0 := [qFr off n n]) (m0 := qM ds ty [m0, m1, m2, m3] false (some (a, o))) (base := 1) (π := [(2, 2), (4, 4), (6, 6)]) ?_ ?_
  · rw [s_sub4f]
    exact ⟨rfl, p_tk _, rfl, rfl, rfl, rfl, rfl, rfl, by kernel_rfl, rfl, rfl, rfl, rfl, rfl, rfl, trivial⟩
  · refine past_E EL_ok 1000 (q_step4f off n ds ty m0 m1 m2 m3 a o n) ?_ (fun _ _ h => h) (fun _ _ h => h.elim)
    have g0 : MsgOk m0 := hok.1
    obtain ⟨gf0, gF0, gr0, gR0⟩ := id g0
    have t0 : MsgAt a (o + 0) m0 := hrow.1
    have x00 : intAt a o = m0.f := (t0.t0 _ (by omega)).2
    have y00 := (t0.t0 o (by omega)).1
    have x01 : intAt a (o + 1) = m0.w := (t0.t1 _ (by omega)).2
    have y01 := (t0.t1 (o + 1) (by omega)).1
    have x02 : intAt a (o + 2) = m0.r := (t0.t2 _ (by omega)).2
    have y02 := (t0.t2 (o + 2) (by omega)).1
    have x03 : boolAt a (o + 3) = m0.s := (t0.t3 _ (by omega)).2
    have y03 := (t0.t3 (o + 3) (by omega)).1
    have g1 : MsgOk m1 := hok.2.1
    obtain ⟨gf1, gF1, gr1, gR1⟩ := id g1
    have t1 : MsgAt a (o + 4) m1 := hrow.2.1
    have x10 : intAt a (o + 4) = m1.f := (t1.t0 _ (by omega)).2
    have y10 := (t1.t0 (o + 4) (by omega)).1
    have x11 : intAt a (o + 5) = m1.w := (t1.t1 _ (by omega)).2
    have y11 := (t1.t1 (o + 5) (by omega)).1
    have x12 : intAt a (o + 6) = m1.r := (t1.t2 _ (by omega)).2
    have y12 := (t1.t2 (o + 6) (by omega)).1
    have x13 : boolAt a (o + 7) = m1.s := (t1.t3 _ (by omega)).2
    have y13 := (t1.t3 (o + 7) (by omega)).1
    have g2 : MsgOk m2 := hok.2.2.1
    obtain ⟨gf2, gF2, gr2, gR2⟩ := id g2
    have t2 : MsgAt a (o + 8) m2 := hrow.2.2.1
    have x20 : intAt a (o + 8) = m2.f := (t2.t0 _ (by omega)).2
    have y20 := (t2.t0 (o + 8) (by omega)).1
    have x21 : intAt a (o + 9) = m2.w := (t2.t1 _ (by omega)).2
    have y21 := (t2.t1 (o + 9) (by omega)).1
    have x22 : intAt a (o + 10) = m2.r := (t2.t2 _ (by omega)).2
    have y22 := (t2.t2 (o + 10) (by omega)).1
    have x23 : boolAt a (o + 11) = m2.s := (t2.t3 _ (by omega)).2
    have y23 := (t2.t3 (o + 11) (by omega)).1
    have g3 : MsgOk m3 := hok.2.2.2.1
    obtain ⟨gf3, gF3, gr3, gR3⟩ := id g3
    have t3 : MsgAt a (o + 12) m3 := hrow.2.2.2.1
    have x30 : intAt a (o + 12) = m3.f := (t3.t0 _ (by omega)).2
    have y30 := (t3.t0 (o + 12) (by omega)).1
    have x31 : intAt a (o + 13) = m3.w := (t3.t1 _ (by omega)).2
    have y31 := (t3.t1 (o + 13) (by omega)).1
    have x32 : intAt a (o + 14) = m3.r := (t3.t2 _ (by omega)).2
    have y32 := (t3.t2 (o + 14) (by omega)).1
    have x33 : boolAt a (o + 15) = m3.s := (t3.t3 _ (by omega)).2
    have y33 := (t3.t3 (o + 15) (by omega)).1
    have e0 : decide ((n : Int) < n) = false := decide_eq_false (by omega)
    simp (disch := omega) only [e0, x00, x01, x02, x03, x10, x11, x12, x13, x20, x21, x22, x23, x30, x31, x32, x33, pi64, beq_self_eq_true, Bool.and_self, Bool.not_true, Bool.false_eq_true, false_implies, true_implies]
    repeat' first
      | exact trivial
      | apply And.intro
      | intro _
      | exact rfl
      | exact y00
      | exact y01
      | exact y02
      | exact y03
      | exact y10
      | exact y11
      | exact y12
      | exact y13
      | exact y20
      | exact y21
      | exact y22
      | exact y23
      | exact y30
      | exact y31
      | exact y32
      | exact y33
theorem p_e4t {m0 m1 m2 m3 : Msg} {a : Array Value} {o : Nat} {ms : List Msg} {cc : Bool} {w : WL} (hok : MsgsOk [m0, m1, m2, m3]) (hrow : MsgsAt a o [m0, m1, m2, m3]) : Good Try.prog okRet 1 [pFr pTodo off n n] (pM ds ty ms cc w (boxV [m0, m1, m2, m3] true) true (some (a, o, 4))) := by
  refine Good.of_sub (fs0 := [qFr off n n]) (m0 := qM ds ty [m0, m1, m2, m3] true (some (a, o))) (base := 1) (π := [(2, 2), (4, 4), (6, 6)]) ?_ ?_
  · rw [s_sub4t]
    exact ⟨rfl, p_tk _, rfl, rfl, rfl, rfl, rfl, rfl, by kernel_rfl, rfl, rfl, rfl, rfl, rfl, rfl, trivial⟩
  · refine past_E EL_ok 1000 (q_step4t off n ds ty m0 m1 m2 m3 a o n) ?_ (fun _ _ h => h) (fun _ _ h => h.elim)
    have g0 : MsgOk m0 := hok.1
    obtain ⟨gf0, gF0, gr0, gR0⟩ := id g0
    have t0 : MsgAt a (o + 0) m0 := hrow.1
    have x00 : intAt a o = m0.f := (t0.t0 _ (by omega)).2
    have y00 := (t0.t0 o (by omega)).1
    have x01 : intAt a (o + 1) = m0.w := (t0.t1 _ (by omega)).2
    have y01 := (t0.t1 (o + 1) (by omega)).1
    have x02 : intAt a (o + 2) = m0.r := (t0.t2 _ (by omega)).2
    have y02 := (t0.t2 (o + 2) (by omega)).1
    have x03 : boolAt a (o + 3) = m0.s := (t0.t3 _ (by omega)).2
    have y03 := (t0.t3 (o + 3) (by omega)).1
    have g1 : MsgOk m1 := hok.2.1
    obtain ⟨gf1, gF1, gr1, gR1⟩ := id g1
    have t1 : MsgAt a (o + 4) m1 := hrow.2.1
    have x10 : intAt a (o + 4) = m1.f := (t1.t0 _ (by omega)).2
    have y10 := (t1.t0 (o + 4) (by omega)).1
    have x11 : intAt a (o + 5) = m1.w := (t1.t1 _ (by omega)).2
    have y11 := (t1.t1 (o + 5) (by omega)).1
    have x12 : intAt a (o + 6) = m1.r := (t1.t2 _ (by omega)).2
    have y12 := (t1.t2 (o + 6) (by omega)).1
    have x13 : boolAt a (o + 7) = m1.s := (t1.t3 _ (by omega)).2
    have y13 := (t1.t3 (o + 7) (by omega)).1
    have g2 : MsgOk m2 := hok.2.2.1
    obtain ⟨gf2, gF2, gr2, gR2⟩ := id g2
    have t2 : MsgAt a (o + 8) m2 := hrow.2.2.1
    have x20 : intAt a (o + 8) = m2.f := (t2.t0 _ (by omega)).2
    have y20 := (t2.t0 (o + 8) (by omega)).1
    have x21 : intAt a (o + 9) = m2.w := (t2.t1 _ (by omega)).2
    have y21 := (t2.t1 (o + 9) (by omega)).1
    have x22 : intAt a (o + 10) = m2.r := (t2.t2 _ (by omega)).2
    have y22 := (t2.t2 (o + 10) (by omega)).1
    have x23 : boolAt a (o + 11) = m2.s := (t2.t3 _ (by omega)).2
    have y23 := (t2.t3 (o + 11) (by omega)).1
    have g3 : MsgOk m3 := hok.2.2.2.1
    obtain ⟨gf3, gF3, gr3, gR3⟩ := id g3
    have t3 : MsgAt a (o + 12) m3 := hrow.2.2.2.1
    have x30 : intAt a (o + 12) = m3.f := (t3.t0 _ (by omega)).2
    have y30 := (t3.t0 (o + 12) (by omega)).1
    have x31 : intAt a (o + 13) = m3.w := (t3.t1 _ (by omega)).2
    have y31 := (t3.t1 (o + 13) (by omega)).1
    have x32 : intAt a (o + 14) = m3.r := (t3.t2 _ (by omega)).2
    have y32 := (t3.t2 (o + 14) (by omega)).1
    have x33 : boolAt a (o + 15) = m3.s := (t3.t3 _ (by omega)).2
    have y33 := (t3.t3 (o + 15) (by omega)).1
    have e0 : decide ((n : Int) < n) = false := decide_eq_false (by omega)
    simp (disch := omega) only [e0, x00, x01, x02, x03, x10, x11, x12, x13, x20, x21, x22, x23, x30, x31, x32, x33, pi64, beq_self_eq_true, Bool.and_self, Bool.not_true, Bool.false_eq_true, false_implies, true_implies]
    repeat' first
      | exact trivial
      | apply And.intro
      | intro _
      | exact rfl
      | exact y00
      | exact y01
      | exact y02
      | exact y03
      | exact y10
      | exact y11
      | exact y12
      | exact y13
      | exact y20
      | exact y21
      | exact y22
      | exact y23
      | exact y30
      | exact y31
      | exact y32
      | exact y33
theorem p_end {ms : List Msg} {c : Bool} {w : WL} {h : Array Value} {hc : Bool} {v : VL} (hv : VOk h hc v) : Good Try.prog okRet 1 [pFr pTodo off n n] (pM ds ty ms c w h hc v) := by
  obtain ⟨hs, rfl, h4, hok, hv⟩ := hv
  match v, hs, hc with
  | none, _, false => obtain rfl := hv; exact p_e0f
  | none, _, true => obtain rfl := hv; exact p_e0t
  | some (_, _, _), [], _ => exact (hv.1 rfl).elim
  | some (_, _, _), [_], false => obtain ⟨_, rfl, hr⟩ := hv; exact p_e1f hok hr
  | some (_, _, _), [_], true => obtain ⟨_, rfl, hr⟩ := hv; exact p_e1t hok hr
  | some (_, _, _), [_, _], false => obtain ⟨_, rfl, hr⟩ := hv; exact p_e2f hok hr
  | some (_, _, _), [_, _], true => obtain ⟨_, rfl, hr⟩ := hv; exact p_e2t hok hr
  | some (_, _, _), [_, _, _], false => obtain ⟨_, rfl, hr⟩ := hv; exact p_e3f hok hr
  | some (_, _, _), [_, _, _], true => obtain ⟨_, rfl, hr⟩ := hv; exact p_e3t hok hr
  | some (_, _, _), [_, _, _, _], false => obtain ⟨_, rfl, hr⟩ := hv; exact p_e4f hok hr
  | some (_, _, _), [_, _, _, _], true => obtain ⟨_, rfl, hr⟩ := hv; exact p_e4t hok hr
  | some (_, _, _), _ :: _ :: _ :: _ :: _ :: _, _ => simp only [len] at h4; omega
/-- One round. -/
theorem p_round {i : Nat} (hn : n ≤ 200) (hi : i < n) (hA : ActIs ds (off + i * 5)) {ms : List Msg} {c : Bool} {w : WL} {h : Array Value} {hc : Bool} {v : VL} (hp : pInv n ms w i) (hv : VOk h hc v)
    (ih : ∀ ms c w h hc v, pInv n ms w ((i : Int) + 1) → VOk h hc v → Good Try.prog okRet 1 [pFr pTodo off n ((i : Int) + 1)] (pM ds ty ms c w h hc v)) : Good Try.prog okRet 1 [pFr pTodo off n i] (pM ds ty ms c w h hc v) := by
  match ms, w, c, v with
  | [], some _, _, _ => exact (hp.2.2.1.1 rfl).elim
  | _ :: _, none, _, _ => exact absurd hp.2.2.1 (List.cons_ne_nil _ _)
  | [], none, false, none => exact p_r0fn hn hi hA hp hv ih
  | [], none, false, some (_, _, _) => exact p_r0fs hn hi hA hp hv ih
  | [], none, true, none => exact p_r0tn hn hi hA hp hv ih
  | [], none, true, some (_, _, _) => exact p_r0ts hn hi hA hp hv ih
  | [_], some (_, _), false, none => exact p_r1fn hn hi hA hp hv ih
  | [_], some (_, _), false, some (_, _, _) => exact p_r1fs hn hi hA hp hv ih
  | [_], some (_, _), true, none => exact p_r1tn hn hi hA hp hv ih
  | [_], some (_, _), true, some (_, _, _) => exact p_r1ts hn hi hA hp hv ih
  | [_, _], some (_, _), false, none => exact p_r2fn hn hi hA hp hv ih
  | [_, _], some (_, _), false, some (_, _, _) => exact p_r2fs hn hi hA hp hv ih
  | [_, _], some (_, _), true, none => exact p_r2tn hn hi hA hp hv ih
  | [_, _], some (_, _), true, some (_, _, _) => exact p_r2ts hn hi hA hp hv ih
  | [_, _, _], some (_, _), false, none => exact p_r3fn hn hi hA hp hv ih
  | [_, _, _], some (_, _), false, some (_, _, _) => exact p_r3fs hn hi hA hp hv ih
  | [_, _, _], some (_, _), true, none => exact p_r3tn hn hi hA hp hv ih
  | [_, _, _], some (_, _), true, some (_, _, _) => exact p_r3ts hn hi hA hp hv ih
  | [_, _, _, _], some (_, _), false, none => exact p_r4fn hn hi hA hp hv ih
  | [_, _, _, _], some (_, _), false, some (_, _, _) => exact p_r4fs hn hi hA hp hv ih
  | [_, _, _, _], some (_, _), true, none => exact p_r4tn hn hi hA hp hv ih
  | [_, _, _, _], some (_, _), true, some (_, _, _) => exact p_r4ts hn hi hA hp hv ih
  | _ :: _ :: _ :: _ :: _ :: _, some _, _, _ =>
    have := hp.1
    simp only [len] at this
    omega
/-- All rounds. -/
theorem p_loop (hn : n ≤ 200) (hA : ActsOk ds off n) : ∀ (r i : Nat), i + r = n → ∀ ms c w h hc v, pInv n ms w i → VOk h hc v → Good Try.prog okRet 1 [pFr pTodo off n i] (pM ds ty ms c w h hc v) := by
  intro r
  induction r with
  | zero =>
    intro i hi ms c w h hc v hp hv
    obtain rfl : i = n := by omega
    exact p_end hv
  | succ r ih =>
    intro i hi ms c w h hc v hp hv
    refine p_round hn (by omega) (hA i (by omega)) hp hv fun ms c w h hc v hp hv => ?_
    have := ih (i + 1) (by omega) ms c w h hc v
    rw [Int.natCast_add] at this
    exact this hp hv
/-- The law, of acts that may be read. -/
theorem plays_good (hA : n ≤ 200 → ActsOk ds off n) : Good Try.prog okRet 1 [callFr 3 Try.f3.ntmps [actsS off n] (Try.f3.body.getD .skip)] (oneD ds ty) := by
  refine run_vc EL_ok 1000 (p_start off n ds ty) ?_ (fun _ _ h => h) (fun fs m hb => pNext_of hb fun ms c w h hc v hp hv => Good.head ?_)
  · refine ⟨fun _ => trivial, fun h => ?_⟩
    have h := of_decide_eq_false h
    refine ⟨rfl, rfl, ⟨by simp [len], trivial, rfl, by omega, by omega, by omega⟩, vok_of [] (by kernel_rfl) (by simp [len]) trivial rfl, rfl, p_tk0 _, rfl, rfl, rfl, rfl, rfl, rfl, rfl, rfl, rfl, rfl, rfl, trivial⟩
  · have h200 : n ≤ 200 := hp.2.2.2.2.2
    exact p_loop h200 (hA h200) n 0 (by omega) ms c w h hc v hp hv
end
end Go.Proofs.Ytkahmhcfhefneaa
