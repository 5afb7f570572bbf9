/- Of mail: MailPlays' rounds, of 1 messages. No condition. -/
import Derived.Test.YtkahmhcfhefneaaPN
import Derived.Test.YtkahmhcfhefneaaP1x
namespace Go.Proofs.Ytkahmhcfhefneaa
set_option maxHeartbeats 4000000
section
variable {ds : Array Value} {off n : Nat} {ty : TypeId}
theorem p_r1fn {m0 : Msg} {a : Array Value} {o : Nat} {h : Array Value} {hc : Bool} {i : Nat} (hn : n ≤ 200) (hi : i < n) (hA : ActIs ds (off + i * 5)) (hp : pInv n [m0] (some (a, o)) i) (hv : VOk h hc none)
    (ih : ∀ ms c w h hc v, pInv n ms w ((i : Int) + 1) → VOk h hc v → Good Try.prog okRet 1 [pFr pTodo off n ((i : Int) + 1)] (pM ds ty ms c w h hc v)) : Good Try.prog okRet 1 [pFr pTodo off n i] (pM ds ty [m0] false (some (a, o)) h hc none) := by
  refine past_T EL_ok 1000 (p_step1fn off n ds ty m0 a o h hc i) ?_ (fun _ _ h => h) (fun fs m hb => pNext_of hb ih)
  clear ih
  have hj : (i : Int).toNat = i := Int.toNat_natCast i
  have hsz := vok_size hv
  obtain ⟨_, hok, hw, _, _, _⟩ := hp
  have hnew := newM_ok hA
  have b0 := hA.a0; have b1 := hA.a1; have b2 := hA.a2; have b3 := hA.a3; have b4 := hA.a4
  have r1 := hA.r1; have r3 := hA.r3
  have g0 : MsgOk m0 := hok.1
  obtain ⟨gf0, gF0, gr0, gR0⟩ := id g0
  have hrow := hw.2
  have hrs := MsgsAt.size hrow hw.1
  have t0 : MsgAt a (o + 0) m0 := hrow.1
  have x00 : intAt a o = m0.f := (t0.t0 _ (by omega)).2
  have y00 := (t0.t0 o (by omega)).1
  have x01 : intAt a (o + 1) = m0.w := (t0.t1 _ (by omega)).2
  have y01 := (t0.t1 (o + 1) (by omega)).1
  have x02 : intAt a (o + 2) = m0.r := (t0.t2 _ (by omega)).2
  have y02 := (t0.t2 (o + 2) (by omega)).1
  have x03 : boolAt a (o + 3) = m0.s := (t0.t3 _ (by omega)).2
  have y03 := (t0.t3 (o + 3) (by omega)).1
  have hnewr : MsgsAt (newA a o (len [m0]) ds (off + i * 5)) 0 [m0, newM ds (off + i * 5)] := newA_ok hA hrow hw.1
  have u0 : MsgAt (newA a o (len [m0]) ds (off + i * 5)) 0 (m0) := hnewr.1
  have v00 : intAt (newA a o (len [m0]) ds (off + i * 5)) 0 = (m0).f := (u0.t0 _ (by omega)).2
  have z00 := (u0.t0 0 (by omega)).1
  have v01 : intAt (newA a o (len [m0]) ds (off + i * 5)) 1 = (m0).w := (u0.t1 _ (by omega)).2
  have z01 := (u0.t1 1 (by omega)).1
  have v02 : intAt (newA a o (len [m0]) ds (off + i * 5)) 2 = (m0).r := (u0.t2 _ (by omega)).2
  have z02 := (u0.t2 2 (by omega)).1
  have v03 : boolAt (newA a o (len [m0]) ds (off + i * 5)) 3 = (m0).s := (u0.t3 _ (by omega)).2
  have z03 := (u0.t3 3 (by omega)).1
  have u1 : MsgAt (newA a o (len [m0]) ds (off + i * 5)) 4 (newM ds (off + i * 5)) := hnewr.2.1
  have v10 : intAt (newA a o (len [m0]) ds (off + i * 5)) 4 = (newM ds (off + i * 5)).f := (u1.t0 _ (by omega)).2
  have z10 := (u1.t0 4 (by omega)).1
  have v11 : intAt (newA a o (len [m0]) ds (off + i * 5)) 5 = (newM ds (off + i * 5)).w := (u1.t1 _ (by omega)).2
  have z11 := (u1.t1 5 (by omega)).1
  have v12 : intAt (newA a o (len [m0]) ds (off + i * 5)) 6 = (newM ds (off + i * 5)).r := (u1.t2 _ (by omega)).2
  have z12 := (u1.t2 6 (by omega)).1
  have v13 : boolAt (newA a o (len [m0]) ds (off + i * 5)) 7 = (newM ds (off + i * 5)).s := (u1.t3 _ (by omega)).2
  have z13 := (u1.t3 7 (by omega)).1
  simp (disch := omega) only [hj, x00, x01, x02, x03, v00, v01, v02, v03, v10, v11, v12, v13, pi64, newM, beq_self_eq_true, Bool.and_self, Bool.not_true, Bool.false_eq_true, decide_eq_true_eq, decide_eq_false_iff_not, false_implies, true_implies, p_tk]
  repeat' first
    | exact trivial
    | exact hi
    | exact hv
    | exact pInv_of (ms := []) (by simp [len]) trivial rfl hi hn
    | exact vok_put [] hsz rfl (by kernel_rfl) (by simp [len]) trivial rfl
    | exact pInv_of (ms := [m0]) (by simp [len]) ⟨g0, trivial⟩ ⟨by simp, hrow⟩ hi hn
    | exact vok_put [m0] hsz rfl (by kernel_rfl) (by simp [len]) ⟨g0, trivial⟩ ⟨by simp, rfl, hrow⟩
    | exact pInv_of (ms := [m0, newM ds (off + i * 5)]) (by simp [len]) ⟨g0, ⟨hnew, trivial⟩⟩ ⟨by simp, hnewr⟩ hi hn
    | exact vok_put [m0, newM ds (off + i * 5)] hsz rfl (by kernel_rfl) (by simp [len]) ⟨g0, ⟨hnew, trivial⟩⟩ ⟨by simp, rfl, hnewr⟩
    | apply And.intro
    | intro _
    | exact rfl
    | exact b0 _ (by omega)
    | exact b1 _ (by omega)
    | exact b2 _ (by omega)
    | exact b3 _ (by omega)
    | exact b4 _ (by omega)
    | exact y00
    | exact y01
    | exact y02
    | exact y03
    | exact z00
    | exact z01
    | exact z02
    | exact z03
    | exact z10
    | exact z11
    | exact z12
    | exact z13
    | (simp only [len, Array.size_extract, List.length_cons, List.length_nil] at *; omega)
    | contradiction
theorem p_r1fs {m0 : Msg} {a : Array Value} {o : Nat} {h : Array Value} {hc : Bool} {a' : Array Value} {o' k' : Nat} {i : Nat} (hn : n ≤ 200) (hi : i < n) (hA : ActIs ds (off + i * 5)) (hp : pInv n [m0] (some (a, o)) i) (hv : VOk h hc (some (a', o', k')))
    (ih : ∀ ms c w h hc v, pInv n ms w ((i : Int) + 1) → VOk h hc v → Good Try.prog okRet 1 [pFr pTodo off n ((i : Int) + 1)] (pM ds ty ms c w h hc v)) : Good Try.prog okRet 1 [pFr pTodo off n i] (pM ds ty [m0] false (some (a, o)) h hc (some (a', o', k'))) := by
  refine past_T EL_ok 1000 (p_step1fs off n ds ty m0 a o h hc a' o' k' i) ?_ (fun _ _ h => h) (fun fs m hb => pNext_of hb ih)
  clear ih
  have hj : (i : Int).toNat = i := Int.toNat_natCast i
  have hsz := vok_size hv
  obtain ⟨_, hok, hw, _, _, _⟩ := hp
  have hnew := newM_ok hA
  have b0 := hA.a0; have b1 := hA.a1; have b2 := hA.a2; have b3 := hA.a3; have b4 := hA.a4
  have r1 := hA.r1; have r3 := hA.r3
  have g0 : MsgOk m0 := hok.1
  obtain ⟨gf0, gF0, gr0, gR0⟩ := id g0
  have hrow := hw.2
  have hrs := MsgsAt.size hrow hw.1
  have t0 : MsgAt a (o + 0) m0 := hrow.1
  have x00 : intAt a o = m0.f := (t0.t0 _ (by omega)).2
  have y00 := (t0.t0 o (by omega)).1
  have x01 : intAt a (o + 1) = m0.w := (t0.t1 _ (by omega)).2
  have y01 := (t0.t1 (o + 1) (by omega)).1
  have x02 : intAt a (o + 2) = m0.r := (t0.t2 _ (by omega)).2
  have y02 := (t0.t2 (o + 2) (by omega)).1
  have x03 : boolAt a (o + 3) = m0.s := (t0.t3 _ (by omega)).2
  have y03 := (t0.t3 (o + 3) (by omega)).1
  have hnewr : MsgsAt (newA a o (len [m0]) ds (off + i * 5)) 0 [m0, newM ds (off + i * 5)] := newA_ok hA hrow hw.1
  have u0 : MsgAt (newA a o (len [m0]) ds (off + i * 5)) 0 (m0) := hnewr.1
  have v00 : intAt (newA a o (len [m0]) ds (off + i * 5)) 0 = (m0).f := (u0.t0 _ (by omega)).2
  have z00 := (u0.t0 0 (by omega)).1
  have v01 : intAt (newA a o (len [m0]) ds (off + i * 5)) 1 = (m0).w := (u0.t1 _ (by omega)).2
  have z01 := (u0.t1 1 (by omega)).1
  have v02 : intAt (newA a o (len [m0]) ds (off + i * 5)) 2 = (m0).r := (u0.t2 _ (by omega)).2
  have z02 := (u0.t2 2 (by omega)).1
  have v03 : boolAt (newA a o (len [m0]) ds (off + i * 5)) 3 = (m0).s := (u0.t3 _ (by omega)).2
  have z03 := (u0.t3 3 (by omega)).1
  have u1 : MsgAt (newA a o (len [m0]) ds (off + i * 5)) 4 (newM ds (off + i * 5)) := hnewr.2.1
  have v10 : intAt (newA a o (len [m0]) ds (off + i * 5)) 4 = (newM ds (off + i * 5)).f := (u1.t0 _ (by omega)).2
  have z10 := (u1.t0 4 (by omega)).1
  have v11 : intAt (newA a o (len [m0]) ds (off + i * 5)) 5 = (newM ds (off + i * 5)).w := (u1.t1 _ (by omega)).2
  have z11 := (u1.t1 5 (by omega)).1
  have v12 : intAt (newA a o (len [m0]) ds (off + i * 5)) 6 = (newM ds (off + i * 5)).r := (u1.t2 _ (by omega)).2
  have z12 := (u1.t2 6 (by omega)).1
  have v13 : boolAt (newA a o (len [m0]) ds (off + i * 5)) 7 = (newM ds (off + i * 5)).s := (u1.t3 _ (by omega)).2
  have z13 := (u1.t3 7 (by omega)).1
  simp (disch := omega) only [hj, x00, x01, x02, x03, v00, v01, v02, v03, v10, v11, v12, v13, pi64, newM, beq_self_eq_true, Bool.and_self, Bool.not_true, Bool.false_eq_true, decide_eq_true_eq, decide_eq_false_iff_not, false_implies, true_implies, p_tk]
  repeat' first
    | exact trivial
    | exact hi
    | exact hv
    | exact pInv_of (ms := []) (by simp [len]) trivial rfl hi hn
    | exact vok_put [] hsz rfl (by kernel_rfl) (by simp [len]) trivial rfl
    | exact pInv_of (ms := [m0]) (by simp [len]) ⟨g0, trivial⟩ ⟨by simp, hrow⟩ hi hn
    | exact vok_put [m0] hsz rfl (by kernel_rfl) (by simp [len]) ⟨g0, trivial⟩ ⟨by simp, rfl, hrow⟩
    | exact pInv_of (ms := [m0, newM ds (off + i * 5)]) (by simp [len]) ⟨g0, ⟨hnew, trivial⟩⟩ ⟨by simp, hnewr⟩ hi hn
    | exact vok_put [m0, newM ds (off + i * 5)] hsz rfl (by kernel_rfl) (by simp [len]) ⟨g0, ⟨hnew, trivial⟩⟩ ⟨by simp, rfl, hnewr⟩
    | apply And.intro
    | intro _
    | exact rfl
    | exact b0 _ (by omega)
    | exact b1 _ (by omega)
    | exact b2 _ (by omega)
    | exact b3 _ (by omega)
    | exact b4 _ (by omega)
    | exact y00
    | exact y01
    | exact y02
    | exact y03
    | exact z00
    | exact z01
    | exact z02
    | exact z03
    | exact z10
    | exact z11
    | exact z12
    | exact z13
    | (simp only [len, Array.size_extract, List.length_cons, List.length_nil] at *; omega)
    | contradiction
theorem p_r1tn {m0 : Msg} {a : Array Value} {o : Nat} {h : Array Value} {hc : Bool} {i : Nat} (hn : n ≤ 200) (hi : i < n) (hA : ActIs ds (off + i * 5)) (hp : pInv n [m0] (some (a, o)) i) (hv : VOk h hc none)
    (ih : ∀ ms c w h hc v, pInv n ms w ((i : Int) + 1) → VOk h hc v → Good Try.prog okRet 1 [pFr pTodo off n ((i : Int) + 1)] (pM ds ty ms c w h hc v)) : Good Try.prog okRet 1 [pFr pTodo off n i] (pM ds ty [m0] true (some (a, o)) h hc none) := by
  refine past_T EL_ok 1000 (p_step1tn off n ds ty m0 a o h hc i) ?_ (fun _ _ h => h) (fun fs m hb => pNext_of hb ih)
  clear ih
  have hj : (i : Int).toNat = i := Int.toNat_natCast i
  have hsz := vok_size hv
  obtain ⟨_, hok, hw, _, _, _⟩ := hp
  have hnew := newM_ok hA
  have b0 := hA.a0; have b1 := hA.a1; have b2 := hA.a2; have b3 := hA.a3; have b4 := hA.a4
  have r1 := hA.r1; have r3 := hA.r3
  have g0 : MsgOk m0 := hok.1
  obtain ⟨gf0, gF0, gr0, gR0⟩ := id g0
  have hrow := hw.2
  have hrs := MsgsAt.size hrow hw.1
  have t0 : MsgAt a (o + 0) m0 := hrow.1
  have x00 : intAt a o = m0.f := (t0.t0 _ (by omega)).2
  have y00 := (t0.t0 o (by omega)).1
  have x01 : intAt a (o + 1) = m0.w := (t0.t1 _ (by omega)).2
  have y01 := (t0.t1 (o + 1) (by omega)).1
  have x02 : intAt a (o + 2) = m0.r := (t0.t2 _ (by omega)).2
  have y02 := (t0.t2 (o + 2) (by omega)).1
  have x03 : boolAt a (o + 3) = m0.s := (t0.t3 _ (by omega)).2
  have y03 := (t0.t3 (o + 3) (by omega)).1
  simp (disch := omega) only [hj, x00, x01, x02, x03, pi64, newM, beq_self_eq_true, Bool.and_self, Bool.not_true, Bool.false_eq_true, decide_eq_true_eq, decide_eq_false_iff_not, false_implies, true_implies, p_tk]
  repeat' first
    | exact trivial
    | exact hi
    | exact hv
    | exact pInv_of (ms := []) (by simp [len]) trivial rfl hi hn
    | exact vok_put [] hsz rfl (by kernel_rfl) (by simp [len]) trivial rfl
    | exact pInv_of (ms := [m0]) (by simp [len]) ⟨g0, trivial⟩ ⟨by simp, hrow⟩ hi hn
    | exact vok_put [m0] hsz rfl (by kernel_rfl) (by simp [len]) ⟨g0, trivial⟩ ⟨by simp, rfl, hrow⟩
    | apply And.intro
    | intro _
    | exact rfl
    | exact b0 _ (by omega)
    | exact b1 _ (by omega)
    | exact b2 _ (by omega)
    | exact b3 _ (by omega)
    | exact b4 _ (by omega)
    | exact y00
    | exact y01
    | exact y02
    | exact y03
    | (simp only [len, Array.size_extract, List.length_cons, List.length_nil] at *; omega)
    | contradiction
theorem p_r1ts {m0 : Msg} {a : Array Value} {o : Nat} {h : Array Value} {hc : Bool} {a' : Array Value} {o' k' : Nat} {i : Nat} (hn : n ≤ 200) (hi : i < n) (hA : ActIs ds (off + i * 5)) (hp : pInv n [m0] (some (a, o)) i) (hv : VOk h hc (some (a', o', k')))
    (ih : ∀ ms c w h hc v, pInv n ms w ((i : Int) + 1) → VOk h hc v → Good Try.prog okRet 1 [pFr pTodo off n ((i : Int) + 1)] (pM ds ty ms c w h hc v)) : Good Try.prog okRet 1 [pFr pTodo off n i] (pM ds ty [m0] true (some (a, o)) h hc (some (a', o', k'))) := by
  refine past_T EL_ok 1000 (p_step1ts off n ds ty m0 a o h hc a' o' k' i) ?_ (fun _ _ h => h) (fun fs m hb => pNext_of hb ih)
  clear ih
  have hj : (i : Int).toNat = i := Int.toNat_natCast i
  have hsz := vok_size hv
  obtain ⟨_, hok, hw, _, _, _⟩ := hp
  have hnew := newM_ok hA
  have b0 := hA.a0; have b1 := hA.a1; have b2 := hA.a2; have b3 := hA.a3; have b4 := hA.a4
  have r1 := hA.r1; have r3 := hA.r3
  have g0 : MsgOk m0 := hok.1
  obtain ⟨gf0, gF0, gr0, gR0⟩ := id g0
  have hrow := hw.2
  have hrs := MsgsAt.size hrow hw.1
  have t0 : MsgAt a (o + 0) m0 := hrow.1
  have x00 : intAt a o = m0.f := (t0.t0 _ (by omega)).2
  have y00 := (t0.t0 o (by omega)).1
  have x01 : intAt a (o + 1) = m0.w := (t0.t1 _ (by omega)).2
  have y01 := (t0.t1 (o + 1) (by omega)).1
  have x02 : intAt a (o + 2) = m0.r := (t0.t2 _ (by omega)).2
  have y02 := (t0.t2 (o + 2) (by omega)).1
  have x03 : boolAt a (o + 3) = m0.s := (t0.t3 _ (by omega)).2
  have y03 := (t0.t3 (o + 3) (by omega)).1
  simp (disch := omega) only [hj, x00, x01, x02, x03, pi64, newM, beq_self_eq_true, Bool.and_self, Bool.not_true, Bool.false_eq_true, decide_eq_true_eq, decide_eq_false_iff_not, false_implies, true_implies, p_tk]
  repeat' first
    | exact trivial
    | exact hi
    | exact hv
    | exact pInv_of (ms := []) (by simp [len]) trivial rfl hi hn
    | exact vok_put [] hsz rfl (by kernel_rfl) (by simp [len]) trivial rfl
    | exact pInv_of (ms := [m0]) (by simp [len]) ⟨g0, trivial⟩ ⟨by simp, hrow⟩ hi hn
    | exact vok_put [m0] hsz rfl (by kernel_rfl) (by simp [len]) ⟨g0, trivial⟩ ⟨by simp, rfl, hrow⟩
    | apply And.intro
    | intro _
    | exact rfl
    | exact b0 _ (by omega)
    | exact b1 _ (by omega)
    | exact b2 _ (by omega)
    | exact b3 _ (by omega)
    | exact b4 _ (by omega)
    | exact y00
    | exact y01
    | exact y02
    | exact y03
    | (simp only [len, Array.size_extract, List.length_cons, List.length_nil] at *; omega)
    | contradiction
end
end Go.Proofs.Ytkahmhcfhefneaa
