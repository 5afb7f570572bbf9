/- Of mail: MailPlays' rounds, of 3 messages. No condition. -/
import Derived.Test.YtkahmhcfhefneaaPN
import Derived.Test.YtkahmhcfhefneaaP3x
namespace Go.Proofs.Ytkahmhcfhefneaa
set_option maxHeartbeats 4000000
section
variable {ds : Array Value} {off n : Nat} {ty : TypeId}
theorem p_r3fn {m0 m1 m2 : Msg} {a : Array Value} {o : Nat} {h : Array Value} {hc : Bool} {i : Nat} (hn : n ≤ 200) (hi : i < n) (hA : ActIs ds (off + i * 5)) (hp : pInv n [m0, m1, m2] (some (a, o)) i) (hv : VOk h hc none)
    (ih : ∀ ms c w h hc v, pInv n ms w ((i : Int) + 1) → VOk h hc v → Good Try.prog okRet 1 [pFr pTodo off n ((i : Int) + 1)] (pM ds ty ms c w h hc v)) : Good Try.prog okRet 1 [pFr pTodo off n i] (pM ds ty [m0, m1, m2] false (some (a, o)) h hc none) := by
  refine past_T EL_ok 1000 (p_step3fn off n ds ty m0 m1 m2 a o h hc i) ?_ (fun _ _ h => h) (fun fs m hb => pNext_of hb ih)
  clear ih
  have hj : (i : Int).toNat = i := Int.toNat_natCast i
  have hsz := vok_size hv
  obtain ⟨_, hok, hw, _, _, _⟩ := hp
  have hnew := newM_ok hA
  have b0 := hA.a0; have b1 := hA.a1; have b2 := hA.a2; have b3 := hA.a3; have b4 := hA.a4
  have r1 := hA.r1; have r3 := hA.r3
  have g0 : MsgOk m0 := hok.1
  obtain ⟨gf0, gF0, gr0, gR0⟩ := id g0
  have g1 : MsgOk m1 := hok.2.1
  obtain ⟨gf1, gF1, gr1, gR1⟩ := id g1
  have g2 : MsgOk m2 := hok.2.2.1
  obtain ⟨gf2, gF2, gr2, gR2⟩ := id g2
  have hrow := hw.2
  have hrs := MsgsAt.size hrow hw.1
  have t0 : MsgAt a (o + 0) m0 := hrow.1
  have x00 : intAt a o = m0.f := (t0.t0 _ (by omega)).2
  have y00 := (t0.t0 o (by omega)).1
  have x01 : intAt a (o + 1) = m0.w := (t0.t1 _ (by omega)).2
  have y01 := (t0.t1 (o + 1) (by omega)).1
  have x02 : intAt a (o + 2) = m0.r := (t0.t2 _ (by omega)).2
  have y02 := (t0.t2 (o + 2) (by omega)).1
  have x03 : boolAt a (o + 3) = m0.s := (t0.t3 _ (by omega)).2
  have y03 := (t0.t3 (o + 3) (by omega)).1
  have t1 : MsgAt a (o + 4) m1 := hrow.2.1
  have x10 : intAt a (o + 4) = m1.f := (t1.t0 _ (by omega)).2
  have y10 := (t1.t0 (o + 4) (by omega)).1
  have x11 : intAt a (o + 5) = m1.w := (t1.t1 _ (by omega)).2
  have y11 := (t1.t1 (o + 5) (by omega)).1
  have x12 : intAt a (o + 6) = m1.r := (t1.t2 _ (by omega)).2
  have y12 := (t1.t2 (o + 6) (by omega)).1
  have x13 : boolAt a (o + 7) = m1.s := (t1.t3 _ (by omega)).2
  have y13 := (t1.t3 (o + 7) (by omega)).1
  have t2 : MsgAt a (o + 8) m2 := hrow.2.2.1
  have x20 : intAt a (o + 8) = m2.f := (t2.t0 _ (by omega)).2
  have y20 := (t2.t0 (o + 8) (by omega)).1
  have x21 : intAt a (o + 9) = m2.w := (t2.t1 _ (by omega)).2
  have y21 := (t2.t1 (o + 9) (by omega)).1
  have x22 : intAt a (o + 10) = m2.r := (t2.t2 _ (by omega)).2
  have y22 := (t2.t2 (o + 10) (by omega)).1
  have x23 : boolAt a (o + 11) = m2.s := (t2.t3 _ (by omega)).2
  have y23 := (t2.t3 (o + 11) (by omega)).1
  have hnewr : MsgsAt (newA a o (len [m0, m1, m2]) ds (off + i * 5)) 0 [m0, m1, m2, newM ds (off + i * 5)] := newA_ok hA hrow hw.1
  have u0 : MsgAt (newA a o (len [m0, m1, m2]) ds (off + i * 5)) 0 (m0) := hnewr.1
  have v00 : intAt (newA a o (len [m0, m1, m2]) ds (off + i * 5)) 0 = (m0).f := (u0.t0 _ (by omega)).2
  have z00 := (u0.t0 0 (by omega)).1
  have v01 : intAt (newA a o (len [m0, m1, m2]) ds (off + i * 5)) 1 = (m0).w := (u0.t1 _ (by omega)).2
  have z01 := (u0.t1 1 (by omega)).1
  have v02 : intAt (newA a o (len [m0, m1, m2]) ds (off + i * 5)) 2 = (m0).r := (u0.t2 _ (by omega)).2
  have z02 := (u0.t2 2 (by omega)).1
  have v03 : boolAt (newA a o (len [m0, m1, m2]) ds (off + i * 5)) 3 = (m0).s := (u0.t3 _ (by omega)).2
  have z03 := (u0.t3 3 (by omega)).1
  have u1 : MsgAt (newA a o (len [m0, m1, m2]) ds (off + i * 5)) 4 (m1) := hnewr.2.1
  have v10 : intAt (newA a o (len [m0, m1, m2]) ds (off + i * 5)) 4 = (m1).f := (u1.t0 _ (by omega)).2
  have z10 := (u1.t0 4 (by omega)).1
  have v11 : intAt (newA a o (len [m0, m1, m2]) ds (off + i * 5)) 5 = (m1).w := (u1.t1 _ (by omega)).2
  have z11 := (u1.t1 5 (by omega)).1
  have v12 : intAt (newA a o (len [m0, m1, m2]) ds (off + i * 5)) 6 = (m1).r := (u1.t2 _ (by omega)).2
  have z12 := (u1.t2 6 (by omega)).1
  have v13 : boolAt (newA a o (len [m0, m1, m2]) ds (off + i * 5)) 7 = (m1).s := (u1.t3 _ (by omega)).2
  have z13 := (u1.t3 7 (by omega)).1
  have u2 : MsgAt (newA a o (len [m0, m1, m2]) ds (off + i * 5)) 8 (m2) := hnewr.2.2.1
  have v20 : intAt (newA a o (len [m0, m1, m2]) ds (off + i * 5)) 8 = (m2).f := (u2.t0 _ (by omega)).2
  have z20 := (u2.t0 8 (by omega)).1
  have v21 : intAt (newA a o (len [m0, m1, m2]) ds (off + i * 5)) 9 = (m2).w := (u2.t1 _ (by omega)).2
  have z21 := (u2.t1 9 (by omega)).1
  have v22 : intAt (newA a o (len [m0, m1, m2]) ds (off + i * 5)) 10 = (m2).r := (u2.t2 _ (by omega)).2
  have z22 := (u2.t2 10 (by omega)).1
  have v23 : boolAt (newA a o (len [m0, m1, m2]) ds (off + i * 5)) 11 = (m2).s := (u2.t3 _ (by omega)).2
  have z23 := (u2.t3 11 (by omega)).1
  have u3 : MsgAt (newA a o (len [m0, m1, m2]) ds (off + i * 5)) 12 (newM ds (off + i * 5)) := hnewr.2.2.2.1
  have v30 : intAt (newA a o (len [m0, m1, m2]) ds (off + i * 5)) 12 = (newM ds (off + i * 5)).f := (u3.t0 _ (by omega)).2
  have z30 := (u3.t0 12 (by omega)).1
  have v31 : intAt (newA a o (len [m0, m1, m2]) ds (off + i * 5)) 13 = (newM ds (off + i * 5)).w := (u3.t1 _ (by omega)).2
  have z31 := (u3.t1 13 (by omega)).1
  have v32 : intAt (newA a o (len [m0, m1, m2]) ds (off + i * 5)) 14 = (newM ds (off + i * 5)).r := (u3.t2 _ (by omega)).2
  have z32 := (u3.t2 14 (by omega)).1
  have v33 : boolAt (newA a o (len [m0, m1, m2]) ds (off + i * 5)) 15 = (newM ds (off + i * 5)).s := (u3.t3 _ (by omega)).2
  have z33 := (u3.t3 15 (by omega)).1
  simp (disch := omega) only [hj, x00, x01, x02, x03, x10, x11, x12, x13, x20, x21, x22, x23, v00, v01, v02, v03, v10, v11, v12, v13, v20, v21, v22, v23, v30, v31, v32, v33, pi64, newM, beq_self_eq_true, Bool.and_self, Bool.not_true, Bool.false_eq_true, decide_eq_true_eq, decide_eq_false_iff_not, false_implies, true_implies, p_tk]
  repeat' first
    | exact trivial
    | exact hi
    | exact hv
    | exact pInv_of (ms := []) (by simp [len]) trivial rfl hi hn
    | exact vok_put [] hsz rfl (by kernel_rfl) (by simp [len]) trivial rfl
    | exact pInv_of (ms := [m0, m1, m2]) (by simp [len]) ⟨g0, ⟨g1, ⟨g2, trivial⟩⟩⟩ ⟨by simp, hrow⟩ hi hn
    | exact vok_put [m0, m1, m2] hsz rfl (by kernel_rfl) (by simp [len]) ⟨g0, ⟨g1, ⟨g2, trivial⟩⟩⟩ ⟨by simp, rfl, hrow⟩
    | exact pInv_of (ms := [m1, m2]) (by simp [len]) ⟨g1, ⟨g2, trivial⟩⟩ ⟨by simp, hrow.2⟩ hi hn
    | exact vok_put [m1, m2] hsz rfl (by kernel_rfl) (by simp [len]) ⟨g1, ⟨g2, trivial⟩⟩ ⟨by simp, rfl, hrow.2⟩
    | exact pInv_of (ms := [m0, m1, m2, newM ds (off + i * 5)]) (by simp [len]) ⟨g0, ⟨g1, ⟨g2, ⟨hnew, trivial⟩⟩⟩⟩ ⟨by simp, hnewr⟩ hi hn
    | exact vok_put [m0, m1, m2, newM ds (off + i * 5)] hsz rfl (by kernel_rfl) (by simp [len]) ⟨g0, ⟨g1, ⟨g2, ⟨hnew, trivial⟩⟩⟩⟩ ⟨by simp, rfl, hnewr⟩
    | apply And.intro
    | intro _
    | exact rfl
    | exact b0 _ (by omega)
    | exact b1 _ (by omega)
    | exact b2 _ (by omega)
    | exact b3 _ (by omega)
    | exact b4 _ (by omega)
    | exact y00
    | exact y01
    | exact y02
    | exact y03
    | exact y10
    | exact y11
    | exact y12
    | exact y13
    | exact y20
    | exact y21
    | exact y22
    | exact y23
    | exact z00
    | exact z01
    | exact z02
    | exact z03
    | exact z10
    | exact z11
    | exact z12
    | exact z13
    | exact z20
    | exact z21
    | exact z22
    | exact z23
    | exact z30
    | exact z31
    | exact z32
    | exact z33
    | (simp only [len, Array.size_extract, List.length_cons, List.length_nil] at *; omega)
    | contradiction
theorem p_r3fs {m0 m1 m2 : Msg} {a : Array Value} {o : Nat} {h : Array Value} {hc : Bool} {a' : Array Value} {o' k' : Nat} {i : Nat} (hn : n ≤ 200) (hi : i < n) (hA : ActIs ds (off + i * 5)) (hp : pInv n [m0, m1, m2] (some (a, o)) i) (hv : VOk h hc (some (a', o', k')))
    (ih : ∀ ms c w h hc v, pInv n ms w ((i : Int) + 1) → VOk h hc v → Good Try.prog okRet 1 [pFr pTodo off n ((i : Int) + 1)] (pM ds ty ms c w h hc v)) : Good Try.prog okRet 1 [pFr pTodo off n i] (pM ds ty [m0, m1, m2] false (some (a, o)) h hc (some (a', o', k'))) := by
  refine past_T EL_ok 1000 (p_step3fs off n ds ty m0 m1 m2 a o h hc a' o' k' i) ?_ (fun _ _ h => h) (fun fs m hb => pNext_of hb ih)
  clear ih
  have hj : (i : Int).toNat = i := Int.toNat_natCast i
  have hsz := vok_size hv
  obtain ⟨_, hok, hw, _, _, _⟩ := hp
  have hnew := newM_ok hA
  have b0 := hA.a0; have b1 := hA.a1; have b2 := hA.a2; have b3 := hA.a3; have b4 := hA.a4
  have r1 := hA.r1; have r3 := hA.r3
  have g0 : MsgOk m0 := hok.1
  obtain ⟨gf0, gF0, gr0, gR0⟩ := id g0
  have g1 : MsgOk m1 := hok.2.1
  obtain ⟨gf1, gF1, gr1, gR1⟩ := id g1
  have g2 : MsgOk m2 := hok.2.2.1
  obtain ⟨gf2, gF2, gr2, gR2⟩ := id g2
  have hrow := hw.2
  have hrs := MsgsAt.size hrow hw.1
  have t0 : MsgAt a (o + 0) m0 := hrow.1
  have x00 : intAt a o = m0.f := (t0.t0 _ (by omega)).2
  have y00 := (t0.t0 o (by omega)).1
  have x01 : intAt a (o + 1) = m0.w := (t0.t1 _ (by omega)).2
  have y01 := (t0.t1 (o + 1) (by omega)).1
  have x02 : intAt a (o + 2) = m0.r := (t0.t2 _ (by omega)).2
  have y02 := (t0.t2 (o + 2) (by omega)).1
  have x03 : boolAt a (o + 3) = m0.s := (t0.t3 _ (by omega)).2
  have y03 := (t0.t3 (o + 3) (by omega)).1
  have t1 : MsgAt a (o + 4) m1 := hrow.2.1
  have x10 : intAt a (o + 4) = m1.f := (t1.t0 _ (by omega)).2
  have y10 := (t1.t0 (o + 4) (by omega)).1
  have x11 : intAt a (o + 5) = m1.w := (t1.t1 _ (by omega)).2
  have y11 := (t1.t1 (o + 5) (by omega)).1
  have x12 : intAt a (o + 6) = m1.r := (t1.t2 _ (by omega)).2
  have y12 := (t1.t2 (o + 6) (by omega)).1
  have x13 : boolAt a (o + 7) = m1.s := (t1.t3 _ (by omega)).2
  have y13 := (t1.t3 (o + 7) (by omega)).1
  have t2 : MsgAt a (o + 8) m2 := hrow.2.2.1
  have x20 : intAt a (o + 8) = m2.f := (t2.t0 _ (by omega)).2
  have y20 := (t2.t0 (o + 8) (by omega)).1
  have x21 : intAt a (o + 9) = m2.w := (t2.t1 _ (by omega)).2
  have y21 := (t2.t1 (o + 9) (by omega)).1
  have x22 : intAt a (o + 10) = m2.r := (t2.t2 _ (by omega)).2
  have y22 := (t2.t2 (o + 10) (by omega)).1
  have x23 : boolAt a (o + 11) = m2.s := (t2.t3 _ (by omega)).2
  have y23 := (t2.t3 (o + 11) (by omega)).1
  have hnewr : MsgsAt (newA a o (len [m0, m1, m2]) ds (off + i * 5)) 0 [m0, m1, m2, newM ds (off + i * 5)] := newA_ok hA hrow hw.1
  have u0 : MsgAt (newA a o (len [m0, m1, m2]) ds (off + i * 5)) 0 (m0) := hnewr.1
  have v00 : intAt (newA a o (len [m0, m1, m2]) ds (off + i * 5)) 0 = (m0).f := (u0.t0 _ (by omega)).2
  have z00 := (u0.t0 0 (by omega)).1
  have v01 : intAt (newA a o (len [m0, m1, m2]) ds (off + i * 5)) 1 = (m0).w := (u0.t1 _ (by omega)).2
  have z01 := (u0.t1 1 (by omega)).1
  have v02 : intAt (newA a o (len [m0, m1, m2]) ds (off + i * 5)) 2 = (m0).r := (u0.t2 _ (by omega)).2
  have z02 := (u0.t2 2 (by omega)).1
  have v03 : boolAt (newA a o (len [m0, m1, m2]) ds (off + i * 5)) 3 = (m0).s := (u0.t3 _ (by omega)).2
  have z03 := (u0.t3 3 (by omega)).1
  have u1 : MsgAt (newA a o (len [m0, m1, m2]) ds (off + i * 5)) 4 (m1) := hnewr.2.1
  have v10 : intAt (newA a o (len [m0, m1, m2]) ds (off + i * 5)) 4 = (m1).f := (u1.t0 _ (by omega)).2
  have z10 := (u1.t0 4 (by omega)).1
  have v11 : intAt (newA a o (len [m0, m1, m2]) ds (off + i * 5)) 5 = (m1).w := (u1.t1 _ (by omega)).2
  have z11 := (u1.t1 5 (by omega)).1
  have v12 : intAt (newA a o (len [m0, m1, m2]) ds (off + i * 5)) 6 = (m1).r := (u1.t2 _ (by omega)).2
  have z12 := (u1.t2 6 (by omega)).1
  have v13 : boolAt (newA a o (len [m0, m1, m2]) ds (off + i * 5)) 7 = (m1).s := (u1.t3 _ (by omega)).2
  have z13 := (u1.t3 7 (by omega)).1
  have u2 : MsgAt (newA a o (len [m0, m1, m2]) ds (off + i * 5)) 8 (m2) := hnewr.2.2.1
  have v20 : intAt (newA a o (len [m0, m1, m2]) ds (off + i * 5)) 8 = (m2).f := (u2.t0 _ (by omega)).2
  have z20 := (u2.t0 8 (by omega)).1
  have v21 : intAt (newA a o (len [m0, m1, m2]) ds (off + i * 5)) 9 = (m2).w := (u2.t1 _ (by omega)).2
  have z21 := (u2.t1 9 (by omega)).1
  have v22 : intAt (newA a o (len [m0, m1, m2]) ds (off + i * 5)) 10 = (m2).r := (u2.t2 _ (by omega)).2
  have z22 := (u2.t2 10 (by omega)).1
  have v23 : boolAt (newA a o (len [m0, m1, m2]) ds (off + i * 5)) 11 = (m2).s := (u2.t3 _ (by omega)).2
  have z23 := (u2.t3 11 (by omega)).1
  have u3 : MsgAt (newA a o (len [m0, m1, m2]) ds (off + i * 5)) 12 (newM ds (off + i * 5)) := hnewr.2.2.2.1
  have v30 : intAt (newA a o (len [m0, m1, m2]) ds (off + i * 5)) 12 = (newM ds (off + i * 5)).f := (u3.t0 _ (by omega)).2
  have z30 := (u3.t0 12 (by omega)).1
  have v31 : intAt (newA a o (len [m0, m1, m2]) ds (off + i * 5)) 13 = (newM ds (off + i * 5)).w := (u3.t1 _ (by omega)).2
  have z31 := (u3.t1 13 (by omega)).1
  have v32 : intAt (newA a o (len [m0, m1, m2]) ds (off + i * 5)) 14 = (newM ds (off + i * 5)).r := (u3.t2 _ (by omega)).2
  have z32 := (u3.t2 14 (by omega)).1
  have v33 : boolAt (newA a o (len [m0, m1, m2]) ds (off + i * 5)) 15 = (newM ds (off + i * 5)).s := (u3.t3 _ (by omega)).2
  have z33 := (u3.t3 15 (by omega)).1
  simp (disch := omega) only [hj, x00, x01, x02, x03, x10, x11, x12, x13, x20, x21, x22, x23, v00, v01, v02, v03, v10, v11, v12, v13, v20, v21, v22, v23, v30, v31, v32, v33, pi64, newM, beq_self_eq_true, Bool.and_self, Bool.not_true, Bool.false_eq_true, decide_eq_true_eq, decide_eq_false_iff_not, false_implies, true_implies, p_tk]
  repeat' first
    | exact trivial
    | exact hi
    | exact hv
    | exact pInv_of (ms := []) (by simp [len]) trivial rfl hi hn
    | exact vok_put [] hsz rfl (by kernel_rfl) (by simp [len]) trivial rfl
    | exact pInv_of (ms := [m0, m1, m2]) (by simp [len]) ⟨g0, ⟨g1, ⟨g2, trivial⟩⟩⟩ ⟨by simp, hrow⟩ hi hn
    | exact vok_put [m0, m1, m2] hsz rfl (by kernel_rfl) (by simp [len]) ⟨g0, ⟨g1, ⟨g2, trivial⟩⟩⟩ ⟨by simp, rfl, hrow⟩
    | exact pInv_of (ms := [m1, m2]) (by simp [len]) ⟨g1, ⟨g2, trivial⟩⟩ ⟨by simp, hrow.2⟩ hi hn
    | exact vok_put [m1, m2] hsz rfl (by kernel_rfl) (by simp [len]) ⟨g1, ⟨g2, trivial⟩⟩ ⟨by simp, rfl, hrow.2⟩
    | exact pInv_of (ms := [m0, m1, m2, newM ds (off + i * 5)]) (by simp [len]) ⟨g0, ⟨g1, ⟨g2, ⟨hnew, trivial⟩⟩⟩⟩ ⟨by simp, hnewr⟩ hi hn
    | exact vok_put [m0, m1, m2, newM ds (off + i * 5)] hsz rfl (by kernel_rfl) (by simp [len]) ⟨g0, ⟨g1, ⟨g2, ⟨hnew, trivial⟩⟩⟩⟩ ⟨by simp, rfl, hnewr⟩
    | apply And.intro
    | intro _
    | exact rfl
    | exact b0 _ (by omega)
    | exact b1 _ (by omega)
    | exact b2 _ (by omega)
    | exact b3 _ (by omega)
    | exact b4 _ (by omega)
    | exact y00
    | exact y01
    | exact y02
    | exact y03
    | exact y10
    | exact y11
    | exact y12
    | exact y13
    | exact y20
    | exact y21
    | exact y22
    | exact y23
    | exact z00
    | exact z01
    | exact z02
    | exact z03
    | exact z10
    | exact z11
    | exact z12
    | exact z13
    | exact z20
    | exact z21
    | exact z22
    | exact z23
    | exact z30
    | exact z31
    | exact z32
    | exact z33
    | (simp only [len, Array.size_extract, List.length_cons, List.length_nil] at *; omega)
    | contradiction
theorem p_r3tn {m0 m1 m2 : Msg} {a : Array Value} {o : Nat} {h : Array Value} {hc : Bool} {i : Nat} (hn : n ≤ 200) (hi : i < n) (hA : ActIs ds (off + i * 5)) (hp : pInv n [m0, m1, m2] (some (a, o)) i) (hv : VOk h hc none)
    (ih : ∀ ms c w h hc v, pInv n ms w ((i : Int) + 1) → VOk h hc v → Good Try.prog okRet 1 [pFr pTodo off n ((i : Int) + 1)] (pM ds ty ms c w h hc v)) : Good Try.prog okRet 1 [pFr pTodo off n i] (pM ds ty [m0, m1, m2] true (some (a, o)) h hc none) := by
  refine past_T EL_ok 1000 (p_step3tn off n ds ty m0 m1 m2 a o h hc i) ?_ (fun _ _ h => h) (fun fs m hb => pNext_of hb ih)
  clear ih
  have hj : (i : Int).toNat = i := Int.toNat_natCast i
  have hsz := vok_size hv
  obtain ⟨_, hok, hw, _, _, _⟩ := hp
  have hnew := newM_ok hA
  have b0 := hA.a0; have b1 := hA.a1; have b2 := hA.a2; have b3 := hA.a3; have b4 := hA.a4
  have r1 := hA.r1; have r3 := hA.r3
  have g0 : MsgOk m0 := hok.1
  obtain ⟨gf0, gF0, gr0, gR0⟩ := id g0
  have g1 : MsgOk m1 := hok.2.1
  obtain ⟨gf1, gF1, gr1, gR1⟩ := id g1
  have g2 : MsgOk m2 := hok.2.2.1
  obtain ⟨gf2, gF2, gr2, gR2⟩ := id g2
  have hrow := hw.2
  have hrs := MsgsAt.size hrow hw.1
  have t0 : MsgAt a (o + 0) m0 := hrow.1
  have x00 : intAt a o = m0.f := (t0.t0 _ (by omega)).2
  have y00 := (t0.t0 o (by omega)).1
  have x01 : intAt a (o + 1) = m0.w := (t0.t1 _ (by omega)).2
  have y01 := (t0.t1 (o + 1) (by omega)).1
  have x02 : intAt a (o + 2) = m0.r := (t0.t2 _ (by omega)).2
  have y02 := (t0.t2 (o + 2) (by omega)).1
  have x03 : boolAt a (o + 3) = m0.s := (t0.t3 _ (by omega)).2
  have y03 := (t0.t3 (o + 3) (by omega)).1
  have t1 : MsgAt a (o + 4) m1 := hrow.2.1
  have x10 : intAt a (o + 4) = m1.f := (t1.t0 _ (by omega)).2
  have y10 := (t1.t0 (o + 4) (by omega)).1
  have x11 : intAt a (o + 5) = m1.w := (t1.t1 _ (by omega)).2
  have y11 := (t1.t1 (o + 5) (by omega)).1
  have x12 : intAt a (o + 6) = m1.r := (t1.t2 _ (by omega)).2
  have y12 := (t1.t2 (o + 6) (by omega)).1
  have x13 : boolAt a (o + 7) = m1.s := (t1.t3 _ (by omega)).2
  have y13 := (t1.t3 (o + 7) (by omega)).1
  have t2 : MsgAt a (o + 8) m2 := hrow.2.2.1
  have x20 : intAt a (o + 8) = m2.f := (t2.t0 _ (by omega)).2
  have y20 := (t2.t0 (o + 8) (by omega)).1
  have x21 : intAt a (o + 9) = m2.w := (t2.t1 _ (by omega)).2
  have y21 := (t2.t1 (o + 9) (by omega)).1
  have x22 : intAt a (o + 10) = m2.r := (t2.t2 _ (by omega)).2
  have y22 := (t2.t2 (o + 10) (by omega)).1
  have x23 : boolAt a (o + 11) = m2.s := (t2.t3 _ (by omega)).2
  have y23 := (t2.t3 (o + 11) (by omega)).1
  simp (disch := omega) only [hj, x00, x01, x02, x03, x10, x11, x12, x13, x20, x21, x22, x23, pi64, newM, beq_self_eq_true, Bool.and_self, Bool.not_true, Bool.false_eq_true, decide_eq_true_eq, decide_eq_false_iff_not, false_implies, true_implies, p_tk]
  repeat' first
    | exact trivial
    | exact hi
    | exact hv
    | exact pInv_of (ms := []) (by simp [len]) trivial rfl hi hn
    | exact vok_put [] hsz rfl (by kernel_rfl) (by simp [len]) trivial rfl
    | exact pInv_of (ms := [m0, m1, m2]) (by simp [len]) ⟨g0, ⟨g1, ⟨g2, trivial⟩⟩⟩ ⟨by simp, hrow⟩ hi hn
    | exact vok_put [m0, m1, m2] hsz rfl (by kernel_rfl) (by simp [len]) ⟨g0, ⟨g1, ⟨g2, trivial⟩⟩⟩ ⟨by simp, rfl, hrow⟩
    | exact pInv_of (ms := [m1, m2]) (by simp [len]) ⟨g1, ⟨g2, trivial⟩⟩ ⟨by simp, hrow.2⟩ hi hn
    | exact vok_put [m1, m2] hsz rfl (by kernel_rfl) (by simp [len]) ⟨g1, ⟨g2, trivial⟩⟩ ⟨by simp, rfl, hrow.2⟩
    | apply And.intro
    | intro _
    | exact rfl
    | exact b0 _ (by omega)
    | exact b1 _ (by omega)
    | exact b2 _ (by omega)
    | exact b3 _ (by omega)
    | exact b4 _ (by omega)
    | exact y00
    | exact y01
    | exact y02
    | exact y03
    | exact y10
    | exact y11
    | exact y12
    | exact y13
    | exact y20
    | exact y21
    | exact y22
    | exact y23
    | (simp only [len, Array.size_extract, List.length_cons, List.length_nil] at *; omega)
    | contradiction
theorem p_r3ts {m0 m1 m2 : Msg} {a : Array Value} {o : Nat} {h : Array Value} {hc : Bool} {a' : Array Value} {o' k' : Nat} {i : Nat} (hn : n ≤ 200) (hi : i < n) (hA : ActIs ds (off + i * 5)) (hp : pInv n [m0, m1, m2] (some (a, o)) i) (hv : VOk h hc (some (a', o', k')))
    (ih : ∀ ms c w h hc v, pInv n ms w ((i : Int) + 1) → VOk h hc v → Good Try.prog okRet 1 [pFr pTodo off n ((i : Int) + 1)] (pM ds ty ms c w h hc v)) : Good Try.prog okRet 1 [pFr pTodo off n i] (pM ds ty [m0, m1, m2] true (some (a, o)) h hc (some (a', o', k'))) := by
  refine past_T EL_ok 1000 (p_step3ts off n ds ty m0 m1 m2 a o h hc a' o' k' i) ?_ (fun _ _ h => h) (fun fs m hb => pNext_of hb ih)
  clear ih
  have hj : (i : Int).toNat = i := Int.toNat_natCast i
  have hsz := vok_size hv
  obtain ⟨_, hok, hw, _, _, _⟩ := hp
  have hnew := newM_ok hA
  have b0 := hA.a0; have b1 := hA.a1; have b2 := hA.a2; have b3 := hA.a3; have b4 := hA.a4
  have r1 := hA.r1; have r3 := hA.r3
  have g0 : MsgOk m0 := hok.1
  obtain ⟨gf0, gF0, gr0, gR0⟩ := id g0
  have g1 : MsgOk m1 := hok.2.1
  obtain ⟨gf1, gF1, gr1, gR1⟩ := id g1
  have g2 : MsgOk m2 := hok.2.2.1
  obtain ⟨gf2, gF2, gr2, gR2⟩ := id g2
  have hrow := hw.2
  have hrs := MsgsAt.size hrow hw.1
  have t0 : MsgAt a (o + 0) m0 := hrow.1
  have x00 : intAt a o = m0.f := (t0.t0 _ (by omega)).2
  have y00 := (t0.t0 o (by omega)).1
  have x01 : intAt a (o + 1) = m0.w := (t0.t1 _ (by omega)).2
  have y01 := (t0.t1 (o + 1) (by omega)).1
  have x02 : intAt a (o + 2) = m0.r := (t0.t2 _ (by omega)).2
  have y02 := (t0.t2 (o + 2) (by omega)).1
  have x03 : boolAt a (o + 3) = m0.s := (t0.t3 _ (by omega)).2
  have y03 := (t0.t3 (o + 3) (by omega)).1
  have t1 : MsgAt a (o + 4) m1 := hrow.2.1
  have x10 : intAt a (o + 4) = m1.f := (t1.t0 _ (by omega)).2
  have y10 := (t1.t0 (o + 4) (by omega)).1
  have x11 : intAt a (o + 5) = m1.w := (t1.t1 _ (by omega)).2
  have y11 := (t1.t1 (o + 5) (by omega)).1
  have x12 : intAt a (o + 6) = m1.r := (t1.t2 _ (by omega)).2
  have y12 := (t1.t2 (o + 6) (by omega)).1
  have x13 : boolAt a (o + 7) = m1.s := (t1.t3 _ (by omega)).2
  have y13 := (t1.t3 (o + 7) (by omega)).1
  have t2 : MsgAt a (o + 8) m2 := hrow.2.2.1
  have x20 : intAt a (o + 8) = m2.f := (t2.t0 _ (by omega)).2
  have y20 := (t2.t0 (o + 8) (by omega)).1
  have x21 : intAt a (o + 9) = m2.w := (t2.t1 _ (by omega)).2
  have y21 := (t2.t1 (o + 9) (by omega)).1
  have x22 : intAt a (o + 10) = m2.r := (t2.t2 _ (by omega)).2
  have y22 := (t2.t2 (o + 10) (by omega)).1
  have x23 : boolAt a (o + 11) = m2.s := (t2.t3 _ (by omega)).2
  have y23 := (t2.t3 (o + 11) (by omega)).1
  simp (disch := omega) only [hj, x00, x01, x02, x03, x10, x11, x12, x13, x20, x21, x22, x23, pi64, newM, beq_self_eq_true, Bool.and_self, Bool.not_true, Bool.false_eq_true, decide_eq_true_eq, decide_eq_false_iff_not, false_implies, true_implies, p_tk]
  repeat' first
    | exact trivial
    | exact hi
    | exact hv
    | exact pInv_of (ms := []) (by simp [len]) trivial rfl hi hn
    | exact vok_put [] hsz rfl (by kernel_rfl) (by simp [len]) trivial rfl
    | exact pInv_of (ms := [m0, m1, m2]) (by simp [len]) ⟨g0, ⟨g1, ⟨g2, trivial⟩⟩⟩ ⟨by simp, hrow⟩ hi hn
    | exact vok_put [m0, m1, m2] hsz rfl (by kernel_rfl) (by simp [len]) ⟨g0, ⟨g1, ⟨g2, trivial⟩⟩⟩ ⟨by simp, rfl, hrow⟩
    | exact pInv_of (ms := [m1, m2]) (by simp [len]) ⟨g1, ⟨g2, trivial⟩⟩ ⟨by simp, hrow.2⟩ hi hn
    | exact vok_put [m1, m2] hsz rfl (by kernel_rfl) (by simp [len]) ⟨g1, ⟨g2, trivial⟩⟩ ⟨by simp, rfl, hrow.2⟩
    | apply And.intro
    | intro _
    | exact rfl
    | exact b0 _ (by omega)
    | exact b1 _ (by omega)
    | exact b2 _ (by omega)
    | exact b3 _ (by omega)
    | exact b4 _ (by omega)
    | exact y00
    | exact y01
    | exact y02
    | exact y03
    | exact y10
    | exact y11
    | exact y12
    | exact y13
    | exact y20
    | exact y21
    | exact y22
    | exact y23
    | (simp only [len, Array.size_extract, List.length_cons, List.length_nil] at *; omega)
    | contradiction
end
end Go.Proofs.Ytkahmhcfhefneaa
