/- Of mail: MailPlays' rounds, of 4 messages. No condition. -/
import Derived.Test.YtkahmhcfhefneaaPN
import Derived.Test.YtkahmhcfhefneaaP4x
namespace Go.Proofs.Ytkahmhcfhefneaa
set_option maxHeartbeats 4000000
section
variable {ds : Array Value} {off n : Nat} {ty : TypeId}
theorem p_r4fn {m0 m1 m2 m3 : Msg} {a : Array Value} {o : Nat} {h : Array Value} {hc : Bool} {i : Nat} (hn : n ≤ 200) (hi : i < n) (hA : ActIs ds (off + i * 5)) (hp : pInv n [m0, m1, m2, m3] (some (a, o)) i) (hv : VOk h hc none)
    (ih : ∀ ms c w h hc v, pInv n ms w ((i : Int) + 1) → VOk h hc v → Good Try.prog okRet 1 [pFr pTodo off n ((i : Int) + 1)] (pM ds ty ms c w h hc v)) : Good Try.prog okRet 1 [pFr pTodo off n i] (pM ds ty [m0, m1, m2, m3] false (some (a, o)) h hc none) := by
  refine past_T EL_ok 1000 (p_step4fn off n ds ty m0 m1 m2 m3 a o h hc i) ?_ (fun _ _ h => h) (fun fs m hb => pNext_of hb ih)
  clear ih
  have hj : (i : Int).toNat = i := Int.toNat_natCast i
  have hsz := vok_size hv
  obtain ⟨_, hok, hw, _, _, _⟩ := hp
  have hnew := newM_ok hA
  have b0 := hA.a0; have b1 := hA.a1; have b2 := hA.a2; have b3 := hA.a3; have b4 := hA.a4
  have r1 := hA.r1; have r3 := hA.r3
  have g0 : MsgOk m0 := hok.1
  obtain ⟨gf0, gF0, gr0, gR0⟩ := id g0
  have g1 : MsgOk m1 := hok.2.1
  obtain ⟨gf1, gF1, gr1, gR1⟩ := id g1
  have g2 : MsgOk m2 := hok.2.2.1
  obtain ⟨gf2, gF2, gr2, gR2⟩ := id g2
  have g3 : MsgOk m3 := hok.2.2.2.1
  obtain ⟨gf3, gF3, gr3, gR3⟩ := id g3
  have hrow := hw.2
  have hrs := MsgsAt.size hrow hw.1
  have t0 : MsgAt a (o + 0) m0 := hrow.1
  have x00 : intAt a o = m0.f := (t0.t0 _ (by omega)).2
  have y00 := (t0.t0 o (by omega)).1
  have x01 : intAt a (o + 1) = m0.w := (t0.t1 _ (by omega)).2
  have y01 := (t0.t1 (o + 1) (by omega)).1
  have x02 : intAt a (o + 2) = m0.r := (t0.t2 _ (by omega)).2
  have y02 := (t0.t2 (o + 2) (by omega)).1
  have x03 : boolAt a (o + 3) = m0.s := (t0.t3 _ (by omega)).2
  have y03 := (t0.t3 (o + 3) (by omega)).1
  have t1 : MsgAt a (o + 4) m1 := hrow.2.1
  have x10 : intAt a (o + 4) = m1.f := (t1.t0 _ (by omega)).2
  have y10 := (t1.t0 (o + 4) (by omega)).1
  have x11 : intAt a (o + 5) = m1.w := (t1.t1 _ (by omega)).2
  have y11 := (t1.t1 (o + 5) (by omega)).1
  have x12 : intAt a (o + 6) = m1.r := (t1.t2 _ (by omega)).2
  have y12 := (t1.t2 (o + 6) (by omega)).1
  have x13 : boolAt a (o + 7) = m1.s := (t1.t3 _ (by omega)).2
  have y13 := (t1.t3 (o + 7) (by omega)).1
  have t2 : MsgAt a (o + 8) m2 := hrow.2.2.1
  have x20 : intAt a (o + 8) = m2.f := (t2.t0 _ (by omega)).2
  have y20 := (t2.t0 (o + 8) (by omega)).1
  have x21 : intAt a (o + 9) = m2.w := (t2.t1 _ (by omega)).2
  have y21 := (t2.t1 (o + 9) (by omega)).1
  have x22 : intAt a (o + 10) = m2.r := (t2.t2 _ (by omega)).2
  have y22 := (t2.t2 (o + 10) (by omega)).1
  have x23 : boolAt a (o + 11) = m2.s := (t2.t3 _ (by omega)).2
  have y23 := (t2.t3 (o + 11) (by omega)).1
  have t3 : MsgAt a (o + 12) m3 := hrow.2.2.2.1
  have x30 : intAt a (o + 12) = m3.f := (t3.t0 _ (by omega)).2
  have y30 := (t3.t0 (o + 12) (by omega)).1
  have x31 : intAt a (o + 13) = m3.w := (t3.t1 _ (by omega)).2
  have y31 := (t3.t1 (o + 13) (by omega)).1
  have x32 : intAt a (o + 14) = m3.r := (t3.t2 _ (by omega)).2
  have y32 := (t3.t2 (o + 14) (by omega)).1
  have x33 : boolAt a (o + 15) = m3.s := (t3.t3 _ (by omega)).2
  have y33 := (t3.t3 (o + 15) (by omega)).1
  simp (disch := omega) only [hj, x00, x01, x02, x03, x10, x11, x12, x13, x20, x21, x22, x23, x30, x31, x32, x33, pi64, newM, beq_self_eq_true, Bool.and_self, Bool.not_true, Bool.false_eq_true, decide_eq_true_eq, decide_eq_false_iff_not, false_implies, true_implies, p_tk]
  repeat' first
    | exact trivial
    | exact hi
    | exact hv
    | exact pInv_of (ms := []) (by simp [len]) trivial rfl hi hn
    | exact vok_put [] hsz rfl (by kernel_rfl) (by simp [len]) trivial rfl
    | exact pInv_of (ms := [m0, m1, m2, m3]) (by simp [len]) ⟨g0, ⟨g1, ⟨g2, ⟨g3, trivial⟩⟩⟩⟩ ⟨by simp, hrow⟩ hi hn
    | exact vok_put [m0, m1, m2, m3] hsz rfl (by kernel_rfl) (by simp [len]) ⟨g0, ⟨g1, ⟨g2, ⟨g3, trivial⟩⟩⟩⟩ ⟨by simp, rfl, hrow⟩
    | exact pInv_of (ms := [m1, m2, m3]) (by simp [len]) ⟨g1, ⟨g2, ⟨g3, trivial⟩⟩⟩ ⟨by simp, hrow.2⟩ hi hn
    | exact vok_put [m1, m2, m3] hsz rfl (by kernel_rfl) (by simp [len]) ⟨g1, ⟨g2, ⟨g3, trivial⟩⟩⟩ ⟨by simp, rfl, hrow.2⟩
    | apply And.intro
    | intro _
    | exact rfl
    | exact b0 _ (by omega)
    | exact b1 _ (by omega)
    | exact b2 _ (by omega)
    | exact b3 _ (by omega)
    | exact b4 _ (by omega)
    | exact y00
    | exact y01
    | exact y02
    | exact y03
    | exact y10
    | exact y11
    | exact y12
    | exact y13
    | exact y20
    | exact y21
    | exact y22
    | exact y23
    | exact y30
    | exact y31
    | exact y32
    | exact y33
    | (simp only [len, Array.size_extract, List.length_cons, List.length_nil] at *; omega)
    | contradiction
theorem p_r4fs {m0 m1 m2 m3 : Msg} {a : Array Value} {o : Nat} {h : Array Value} {hc : Bool} {a' : Array Value} {o' k' : Nat} {i : Nat} (hn : n ≤ 200) (hi : i < n) (hA : ActIs ds (off + i * 5)) (hp : pInv n [m0, m1, m2, m3] (some (a, o)) i) (hv : VOk h hc (some (a', o', k')))
    (ih : ∀ ms c w h hc v, pInv n ms w ((i : Int) + 1) → VOk h hc v → Good Try.prog okRet 1 [pFr pTodo off n ((i : Int) + 1)] (pM ds ty ms c w h hc v)) : Good Try.prog okRet 1 [pFr pTodo off n i] (pM ds ty [m0, m1, m2, m3] false (some (a, o)) h hc (some (a', o', k'))) := by
  refine past_T EL_ok 1000 (p_step4fs off n ds ty m0 m1 m2 m3 a o h hc a' o' k' i) ?_ (fun _ _ h => h) (fun fs m hb => pNext_of hb ih)
  clear ih
  have hj : (i : Int).toNat = i := Int.toNat_natCast i
  have hsz := vok_size hv
  obtain ⟨_, hok, hw, _, _, _⟩ := hp
  have hnew := newM_ok hA
  have b0 := hA.a0; have b1 := hA.a1; have b2 := hA.a2; have b3 := hA.a3; have b4 := hA.a4
  have r1 := hA.r1; have r3 := hA.r3
  have g0 : MsgOk m0 := hok.1
  obtain ⟨gf0, gF0, gr0, gR0⟩ := id g0
  have g1 : MsgOk m1 := hok.2.1
  obtain ⟨gf1, gF1, gr1, gR1⟩ := id g1
  have g2 : MsgOk m2 := hok.2.2.1
  obtain ⟨gf2, gF2, gr2, gR2⟩ := id g2
  have g3 : MsgOk m3 := hok.2.2.2.1
  obtain ⟨gf3, gF3, gr3, gR3⟩ := id g3
  have hrow := hw.2
  have hrs := MsgsAt.size hrow hw.1
  have t0 : MsgAt a (o + 0) m0 := hrow.1
  have x00 : intAt a o = m0.f := (t0.t0 _ (by omega)).2
  have y00 := (t0.t0 o (by omega)).1
  have x01 : intAt a (o + 1) = m0.w := (t0.t1 _ (by omega)).2
  have y01 := (t0.t1 (o + 1) (by omega)).1
  have x02 : intAt a (o + 2) = m0.r := (t0.t2 _ (by omega)).2
  have y02 := (t0.t2 (o + 2) (by omega)).1
  have x03 : boolAt a (o + 3) = m0.s := (t0.t3 _ (by omega)).2
  have y03 := (t0.t3 (o + 3) (by omega)).1
  have t1 : MsgAt a (o + 4) m1 := hrow.2.1
  have x10 : intAt a (o + 4) = m1.f := (t1.t0 _ (by omega)).2
  have y10 := (t1.t0 (o + 4) (by omega)).1
  have x11 : intAt a (o + 5) = m1.w := (t1.t1 _ (by omega)).2
  have y11 := (t1.t1 (o + 5) (by omega)).1
  have x12 : intAt a (o + 6) = m1.r := (t1.t2 _ (by omega)).2
  have y12 := (t1.t2 (o + 6) (by omega)).1
  have x13 : boolAt a (o + 7) = m1.s := (t1.t3 _ (by omega)).2
  have y13 := (t1.t3 (o + 7) (by omega)).1
  have t2 : MsgAt a (o + 8) m2 := hrow.2.2.1
  have x20 : intAt a (o + 8) = m2.f := (t2.t0 _ (by omega)).2
  have y20 := (t2.t0 (o + 8) (by omega)).1
  have x21 : intAt a (o + 9) = m2.w := (t2.t1 _ (by omega)).2
  have y21 := (t2.t1 (o + 9) (by omega)).1
  have x22 : intAt a (o + 10) = m2.r := (t2.t2 _ (by omega)).2
  have y22 := (t2.t2 (o + 10) (by omega)).1
  have x23 : boolAt a (o + 11) = m2.s := (t2.t3 _ (by omega)).2
  have y23 := (t2.t3 (o + 11) (by omega)).1
  have t3 : MsgAt a (o + 12) m3 := hrow.2.2.2.1
  have x30 : intAt a (o + 12) = m3.f := (t3.t0 _ (by omega)).2
  have y30 := (t3.t0 (o + 12) (by omega)).1
  have x31 : intAt a (o + 13) = m3.w := (t3.t1 _ (by omega)).2
  have y31 := (t3.t1 (o + 13) (by omega)).1
  have x32 : intAt a (o + 14) = m3.r := (t3.t2 _ (by omega)).2
  have y32 := (t3.t2 (o + 14) (by omega)).1
  have x33 : boolAt a (o + 15) = m3.s := (t3.t3 _ (by omega)).2
  have y33 := (t3.t3 (o + 15) (by omega)).1
  simp (disch := omega) only [hj, x00, x01, x02, x03, x10, x11, x12, x13, x20, x21, x22, x23, x30, x31, x32, x33, pi64, newM, beq_self_eq_true, Bool.and_self, Bool.not_true, Bool.false_eq_true, decide_eq_true_eq, decide_eq_false_iff_not, false_implies, true_implies, p_tk]
  repeat' first
    | exact trivial
    | exact hi
    | exact hv
    | exact pInv_of (ms := []) (by simp [len]) trivial rfl hi hn
    | exact vok_put [] hsz rfl (by kernel_rfl) (by simp [len]) trivial rfl
    | exact pInv_of (ms := [m0, m1, m2, m3]) (by simp [len]) ⟨g0, ⟨g1, ⟨g2, ⟨g3, trivial⟩⟩⟩⟩ ⟨by simp, hrow⟩ hi hn
    | exact vok_put [m0, m1, m2, m3] hsz rfl (by kernel_rfl) (by simp [len]) ⟨g0, ⟨g1, ⟨g2, ⟨g3, trivial⟩⟩⟩⟩ ⟨by simp, rfl, hrow⟩
    | exact pInv_of (ms := [m1, m2, m3]) (by simp [len]) ⟨g1, ⟨g2, ⟨g3, trivial⟩⟩⟩ ⟨by simp, hrow.2⟩ hi hn
    | exact vok_put [m1, m2, m3] hsz rfl (by kernel_rfl) (by simp [len]) ⟨g1, ⟨g2, ⟨g3, trivial⟩⟩⟩ ⟨by simp, rfl, hrow.2⟩
    | apply And.intro
    | intro _
    | exact rfl
    | exact b0 _ (by omega)
    | exact b1 _ (by omega)
    | exact b2 _ (by omega)
    | exact b3 _ (by omega)
    | exact b4 _ (by omega)
    | exact y00
    | exact y01
    | exact y02
    | exact y03
    | exact y10
    | exact y11
    | exact y12
    | exact y13
    | exact y20
    | exact y21
    | exact y22
    | exact y23
    | exact y30
    | exact y31
    | exact y32
    | exact y33
    | (simp only [len, Array.size_extract, List.length_cons, List.length_nil] at *; omega)
    | contradiction
theorem p_r4tn {m0 m1 m2 m3 : Msg} {a : Array Value} {o : Nat} {h : Array Value} {hc : Bool} {i : Nat} (hn : n ≤ 200) (hi : i < n) (hA : ActIs ds (off + i * 5)) (hp : pInv n [m0, m1, m2, m3] (some (a, o)) i) (hv : VOk h hc none)
    (ih : ∀ ms c w h hc v, pInv n ms w ((i : Int) + 1) → VOk h hc v → Good Try.prog okRet 1 [pFr pTodo off n ((i : Int) + 1)] (pM ds ty ms c w h hc v)) : Good Try.prog okRet 1 [pFr pTodo off n i] (pM ds ty [m0, m1, m2, m3] true (some (a, o)) h hc none) := by
  refine past_T EL_ok 1000 (p_step4tn off n ds ty m0 m1 m2 m3 a o h hc i) ?_ (fun _ _ h => h) (fun fs m hb => pNext_of hb ih)
  clear ih
  have hj : (i : Int).toNat = i := Int.toNat_natCast i
  have hsz := vok_size hv
  obtain ⟨_, hok, hw, _, _, _⟩ := hp
  have hnew := newM_ok hA
  have b0 := hA.a0; have b1 := hA.a1; have b2 := hA.a2; have b3 := hA.a3; have b4 := hA.a4
  have r1 := hA.r1; have r3 := hA.r3
  have g0 : MsgOk m0 := hok.1
  obtain ⟨gf0, gF0, gr0, gR0⟩ := id g0
  have g1 : MsgOk m1 := hok.2.1
  obtain ⟨gf1, gF1, gr1, gR1⟩ := id g1
  have g2 : MsgOk m2 := hok.2.2.1
  obtain ⟨gf2, gF2, gr2, gR2⟩ := id g2
  have g3 : MsgOk m3 := hok.2.2.2.1
  obtain ⟨gf3, gF3, gr3, gR3⟩ := id g3
  have hrow := hw.2
  have hrs := MsgsAt.size hrow hw.1
  have t0 : MsgAt a (o + 0) m0 := hrow.1
  have x00 : intAt a o = m0.f := (t0.t0 _ (by omega)).2
  have y00 := (t0.t0 o (by omega)).1
  have x01 : intAt a (o + 1) = m0.w := (t0.t1 _ (by omega)).2
  have y01 := (t0.t1 (o + 1) (by omega)).1
  have x02 : intAt a (o + 2) = m0.r := (t0.t2 _ (by omega)).2
  have y02 := (t0.t2 (o + 2) (by omega)).1
  have x03 : boolAt a (o + 3) = m0.s := (t0.t3 _ (by omega)).2
  have y03 := (t0.t3 (o + 3) (by omega)).1
  have t1 : MsgAt a (o + 4) m1 := hrow.2.1
  have x10 : intAt a (o + 4) = m1.f := (t1.t0 _ (by omega)).2
  have y10 := (t1.t0 (o + 4) (by omega)).1
  have x11 : intAt a (o + 5) = m1.w := (t1.t1 _ (by omega)).2
  have y11 := (t1.t1 (o + 5) (by omega)).1
  have x12 : intAt a (o + 6) = m1.r := (t1.t2 _ (by omega)).2
  have y12 := (t1.t2 (o + 6) (by omega)).1
  have x13 : boolAt a (o + 7) = m1.s := (t1.t3 _ (by omega)).2
  have y13 := (t1.t3 (o + 7) (by omega)).1
  have t2 : MsgAt a (o + 8) m2 := hrow.2.2.1
  have x20 : intAt a (o + 8) = m2.f := (t2.t0 _ (by omega)).2
  have y20 := (t2.t0 (o + 8) (by omega)).1
  have x21 : intAt a (o + 9) = m2.w := (t2.t1 _ (by omega)).2
  have y21 := (t2.t1 (o + 9) (by omega)).1
  have x22 : intAt a (o + 10) = m2.r := (t2.t2 _ (by omega)).2
  have y22 := (t2.t2 (o + 10) (by omega)).1
  have x23 : boolAt a (o + 11) = m2.s := (t2.t3 _ (by omega)).2
  have y23 := (t2.t3 (o + 11) (by omega)).1
  have t3 : MsgAt a (o + 12) m3 := hrow.2.2.2.1
  have x30 : intAt a (o + 12) = m3.f := (t3.t0 _ (by omega)).2
  have y30 := (t3.t0 (o + 12) (by omega)).1
  have x31 : intAt a (o + 13) = m3.w := (t3.t1 _ (by omega)).2
  have y31 := (t3.t1 (o + 13) (by omega)).1
  have x32 : intAt a (o + 14) = m3.r := (t3.t2 _ (by omega)).2
  have y32 := (t3.t2 (o + 14) (by omega)).1
  have x33 : boolAt a (o + 15) = m3.s := (t3.t3 _ (by omega)).2
  have y33 := (t3.t3 (o + 15) (by omega)).1
  simp (disch := omega) only [hj, x00, x01, x02, x03, x10, x11, x12, x13, x20, x21, x22, x23, x30, x31, x32, x33, pi64, newM, beq_self_eq_true, Bool.and_self, Bool.not_true, Bool.false_eq_true, decide_eq_true_eq, decide_eq_false_iff_not, false_implies, true_implies, p_tk]
  repeat' first
    | exact trivial
    | exact hi
    | exact hv
    | exact pInv_of (ms := []) (by simp [len]) trivial rfl hi hn
    | exact vok_put [] hsz rfl (by kernel_rfl) (by simp [len]) trivial rfl
    | exact pInv_of (ms := [m0, m1, m2, m3]) (by simp [len]) ⟨g0, ⟨g1, ⟨g2, ⟨g3, trivial⟩⟩⟩⟩ ⟨by simp, hrow⟩ hi hn
    | exact vok_put [m0, m1, m2, m3] hsz rfl (by kernel_rfl) (by simp [len]) ⟨g0, ⟨g1, ⟨g2, ⟨g3, trivial⟩⟩⟩⟩ ⟨by simp, rfl, hrow⟩
    | exact pInv_of (ms := [m1, m2, m3]) (by simp [len]) ⟨g1, ⟨g2, ⟨g3, trivial⟩⟩⟩ ⟨by simp, hrow.2⟩ hi hn
    | exact vok_put [m1, m2, m3] hsz rfl (by kernel_rfl) (by simp [len]) ⟨g1, ⟨g2, ⟨g3, trivial⟩⟩⟩ ⟨by simp, rfl, hrow.2⟩
    | apply And.intro
    | intro _
    | exact rfl
    | exact b0 _ (by omega)
    | exact b1 _ (by omega)
    | exact b2 _ (by omega)
    | exact b3 _ (by omega)
    | exact b4 _ (by omega)
    | exact y00
    | exact y01
    | exact y02
    | exact y03
    | exact y10
    | exact y11
    | exact y12
    | exact y13
    | exact y20
    | exact y21
    | exact y22
    | exact y23
    | exact y30
    | exact y31
    | exact y32
    | exact y33
    | (simp only [len, Array.size_extract, List.length_cons, List.length_nil] at *; omega)
    | contradiction
theorem p_r4ts {m0 m1 m2 m3 : Msg} {a : Array Value} {o : Nat} {h : Array Value} {hc : Bool} {a' : Array Value} {o' k' : Nat} {i : Nat} (hn : n ≤ 200) (hi : i < n) (hA : ActIs ds (off + i * 5)) (hp : pInv n [m0, m1, m2, m3] (some (a, o)) i) (hv : VOk h hc (some (a', o', k')))
    (ih : ∀ ms c w h hc v, pInv n ms w ((i : Int) + 1) → VOk h hc v → Good Try.prog okRet 1 [pFr pTodo off n ((i : Int) + 1)] (pM ds ty ms c w h hc v)) : Good Try.prog okRet 1 [pFr pTodo off n i] (pM ds ty [m0, m1, m2, m3] true (some (a, o)) h hc (some (a', o', k'))) := by
  refine past_T EL_ok 1000 (p_step4ts off n ds ty m0 m1 m2 m3 a o h hc a' o' k' i) ?_ (fun _ _ h => h) (fun fs m hb => pNext_of hb ih)
  clear ih
  have hj : (i : Int).toNat = i := Int.toNat_natCast i
  have hsz := vok_size hv
  obtain ⟨_, hok, hw, _, _, _⟩ := hp
  have hnew := newM_ok hA
  have b0 := hA.a0; have b1 := hA.a1; have b2 := hA.a2; have b3 := hA.a3; have b4 := hA.a4
  have r1 := hA.r1; have r3 := hA.r3
  have g0 : MsgOk m0 := hok.1
  obtain ⟨gf0, gF0, gr0, gR0⟩ := id g0
  have g1 : MsgOk m1 := hok.2.1
  obtain ⟨gf1, gF1, gr1, gR1⟩ := id g1
  have g2 : MsgOk m2 := hok.2.2.1
  obtain ⟨gf2, gF2, gr2, gR2⟩ := id g2
  have g3 : MsgOk m3 := hok.2.2.2.1
  obtain ⟨gf3, gF3, gr3, gR3⟩ := id g3
  have hrow := hw.2
  have hrs := MsgsAt.size hrow hw.1
  have t0 : MsgAt a (o + 0) m0 := hrow.1
  have x00 : intAt a o = m0.f := (t0.t0 _ (by omega)).2
  have y00 := (t0.t0 o (by omega)).1
  have x01 : intAt a (o + 1) = m0.w := (t0.t1 _ (by omega)).2
  have y01 := (t0.t1 (o + 1) (by omega)).1
  have x02 : intAt a (o + 2) = m0.r := (t0.t2 _ (by omega)).2
  have y02 := (t0.t2 (o + 2) (by omega)).1
  have x03 : boolAt a (o + 3) = m0.s := (t0.t3 _ (by omega)).2
  have y03 := (t0.t3 (o + 3) (by omega)).1
  have t1 : MsgAt a (o + 4) m1 := hrow.2.1
  have x10 : intAt a (o + 4) = m1.f := (t1.t0 _ (by omega)).2
  have y10 := (t1.t0 (o + 4) (by omega)).1
  have x11 : intAt a (o + 5) = m1.w := (t1.t1 _ (by omega)).2
  have y11 := (t1.t1 (o + 5) (by omega)).1
  have x12 : intAt a (o + 6) = m1.r := (t1.t2 _ (by omega)).2
  have y12 := (t1.t2 (o + 6) (by omega)).1
  have x13 : boolAt a (o + 7) = m1.s := (t1.t3 _ (by omega)).2
  have y13 := (t1.t3 (o + 7) (by omega)).1
  have t2 : MsgAt a (o + 8) m2 := hrow.2.2.1
  have x20 : intAt a (o + 8) = m2.f := (t2.t0 _ (by omega)).2
  have y20 := (t2.t0 (o + 8) (by omega)).1
  have x21 : intAt a (o + 9) = m2.w := (t2.t1 _ (by omega)).2
  have y21 := (t2.t1 (o + 9) (by omega)).1
  have x22 : intAt a (o + 10) = m2.r := (t2.t2 _ (by omega)).2
  have y22 := (t2.t2 (o + 10) (by omega)).1
  have x23 : boolAt a (o + 11) = m2.s := (t2.t3 _ (by omega)).2
  have y23 := (t2.t3 (o + 11) (by omega)).1
  have t3 : MsgAt a (o + 12) m3 := hrow.2.2.2.1
  have x30 : intAt a (o + 12) = m3.f := (t3.t0 _ (by omega)).2
  have y30 := (t3.t0 (o + 12) (by omega)).1
  have x31 : intAt a (o + 13) = m3.w := (t3.t1 _ (by omega)).2
  have y31 := (t3.t1 (o + 13) (by omega)).1
  have x32 : intAt a (o + 14) = m3.r := (t3.t2 _ (by omega)).2
  have y32 := (t3.t2 (o + 14) (by omega)).1
  have x33 : boolAt a (o + 15) = m3.s := (t3.t3 _ (by omega)).2
  have y33 := (t3.t3 (o + 15) (by omega)).1
  simp (disch := omega) only [hj, x00, x01, x02, x03, x10, x11, x12, x13, x20, x21, x22, x23, x30, x31, x32, x33, pi64, newM, beq_self_eq_true, Bool.and_self, Bool.not_true, Bool.false_eq_true, decide_eq_true_eq, decide_eq_false_iff_not, false_implies, true_implies, p_tk]
  repeat' first
    | exact trivial
    | exact hi
    | exact hv
    | exact pInv_of (ms := []) (by simp [len]) trivial rfl hi hn
    | exact vok_put [] hsz rfl (by kernel_rfl) (by simp [len]) trivial rfl
    | exact pInv_of (ms := [m0, m1, m2, m3]) (by simp [len]) ⟨g0, ⟨g1, ⟨g2, ⟨g3, trivial⟩⟩⟩⟩ ⟨by simp, hrow⟩ hi hn
    | exact vok_put [m0, m1, m2, m3] hsz rfl (by kernel_rfl) (by simp [len]) ⟨g0, ⟨g1, ⟨g2, ⟨g3, trivial⟩⟩⟩⟩ ⟨by simp, rfl, hrow⟩
    | exact pInv_of (ms := [m1, m2, m3]) (by simp [len]) ⟨g1, ⟨g2, ⟨g3, trivial⟩⟩⟩ ⟨by simp, hrow.2⟩ hi hn
    | exact vok_put [m1, m2, m3] hsz rfl (by kernel_rfl) (by simp [len]) ⟨g1, ⟨g2, ⟨g3, trivial⟩⟩⟩ ⟨by simp, rfl, hrow.2⟩
    | apply And.intro
    | intro _
    | exact rfl
    | exact b0 _ (by omega)
    | exact b1 _ (by omega)
    | exact b2 _ (by omega)
    | exact b3 _ (by omega)
    | exact b4 _ (by omega)
    | exact y00
    | exact y01
    | exact y02
    | exact y03
    | exact y10
    | exact y11
    | exact y12
    | exact y13
    | exact y20
    | exact y21
    | exact y22
    | exact y23
    | exact y30
    | exact y31
    | exact y32
    | exact y33
    | (simp only [len, Array.size_extract, List.length_cons, List.length_nil] at *; omega)
    | contradiction
end
end Go.Proofs.Ytkahmhcfhefneaa
