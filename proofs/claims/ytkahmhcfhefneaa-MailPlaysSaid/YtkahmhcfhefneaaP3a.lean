/- Of mail: MailPlays' rounds, of 0 messages. No condition. -/
import Derived.Test.YtkahmhcfhefneaaPN
import Derived.Test.YtkahmhcfhefneaaP0x
namespace Go.Proofs.Ytkahmhcfhefneaa
set_option maxHeartbeats 4000000
section
variable {ds : Array Value} {off n : Nat} {ty : TypeId}
theorem p_r0fn {h : Array Value} {hc : Bool} {i : Nat} (hn : n ≤ 200) (hi : i < n) (hA : ActIs ds (off + i * 5)) (hp : pInv n [] none i) (hv : VOk h hc none)
    (ih : ∀ ms c w h hc v, pInv n ms w ((i : Int) + 1) → VOk h hc v → Good Try.prog okRet 1 [pFr pTodo off n ((i : Int) + 1)] (pM ds ty ms c w h hc v)) : Good Try.prog okRet 1 [pFr pTodo off n i] (pM ds ty [] false none h hc none) := by
  refine past_T EL_ok 1000 (p_step0fn off n ds ty  h hc i) ?_ (fun _ _ h => h) (fun fs m hb => pNext_of hb ih)
  clear ih
  have hj : (i : Int).toNat = i := Int.toNat_natCast i
  have hsz := vok_size hv
  obtain ⟨_, hok, hw, _, _, _⟩ := hp
  have hnew := newM_ok hA
  have b0 := hA.a0; have b1 := hA.a1; have b2 := hA.a2; have b3 := hA.a3; have b4 := hA.a4
  have r1 := hA.r1; have r3 := hA.r3
  have hnewr : MsgsAt (new0 ds (off + i * 5)) 0 [newM ds (off + i * 5)] := new0_ok hA
  simp (disch := omega) only [hj, pi64, newM, beq_self_eq_true, Bool.and_self, Bool.not_true, Bool.false_eq_true, decide_eq_true_eq, decide_eq_false_iff_not, false_implies, true_implies, p_tk]
  repeat' first
    | exact trivial
    | exact hi
    | exact hv
    | exact pInv_of (ms := []) (by simp [len]) trivial rfl hi hn
    | exact vok_put [] hsz rfl (by kernel_rfl) (by simp [len]) trivial rfl
    | exact pInv_of (ms := [newM ds (off + i * 5)]) (by simp [len]) ⟨hnew, trivial⟩ ⟨by simp, hnewr⟩ hi hn
    | exact vok_put [newM ds (off + i * 5)] hsz rfl (by kernel_rfl) (by simp [len]) ⟨hnew, trivial⟩ ⟨by simp, rfl, hnewr⟩
    | apply And.intro
    | intro _
    | exact rfl
    | exact b0 _ (by omega)
    | exact b1 _ (by omega)
    | exact b2 _ (by omega)
    | exact b3 _ (by omega)
    | exact b4 _ (by omega)
    | (simp only [len, Array.size_extract, List.length_cons, List.length_nil] at *; omega)
    | contradiction
theorem p_r0fs {h : Array Value} {hc : Bool} {a' : Array Value} {o' k' : Nat} {i : Nat} (hn : n ≤ 200) (hi : i < n) (hA : ActIs ds (off + i * 5)) (hp : pInv n [] none i) (hv : VOk h hc (some (a', o', k')))
    (ih : ∀ ms c w h hc v, pInv n ms w ((i : Int) + 1) → VOk h hc v → Good Try.prog okRet 1 [pFr pTodo off n ((i : Int) + 1)] (pM ds ty ms c w h hc v)) : Good Try.prog okRet 1 [pFr pTodo off n i] (pM ds ty [] false none h hc (some (a', o', k'))) := by
  refine past_T EL_ok 1000 (p_step0fs off n ds ty  h hc a' o' k' i) ?_ (fun _ _ h => h) (fun fs m hb => pNext_of hb ih)
  clear ih
  have hj : (i : Int).toNat = i := Int.toNat_natCast i
  have hsz := vok_size hv
  obtain ⟨_, hok, hw, _, _, _⟩ := hp
  have hnew := newM_ok hA
  have b0 := hA.a0; have b1 := hA.a1; have b2 := hA.a2; have b3 := hA.a3; have b4 := hA.a4
  have r1 := hA.r1; have r3 := hA.r3
  have hnewr : MsgsAt (new0 ds (off + i * 5)) 0 [newM ds (off + i * 5)] := new0_ok hA
  simp (disch := omega) only [hj, pi64, newM, beq_self_eq_true, Bool.and_self, Bool.not_true, Bool.false_eq_true, decide_eq_true_eq, decide_eq_false_iff_not, false_implies, true_implies, p_tk]
  repeat' first
    | exact trivial
    | exact hi
    | exact hv
    | exact pInv_of (ms := []) (by simp [len]) trivial rfl hi hn
    | exact vok_put [] hsz rfl (by kernel_rfl) (by simp [len]) trivial rfl
    | exact pInv_of (ms := [newM ds (off + i * 5)]) (by simp [len]) ⟨hnew, trivial⟩ ⟨by simp, hnewr⟩ hi hn
    | exact vok_put [newM ds (off + i * 5)] hsz rfl (by kernel_rfl) (by simp [len]) ⟨hnew, trivial⟩ ⟨by simp, rfl, hnewr⟩
    | apply And.intro
    | intro _
    | exact rfl
    | exact b0 _ (by omega)
    | exact b1 _ (by omega)
    | exact b2 _ (by omega)
    | exact b3 _ (by omega)
    | exact b4 _ (by omega)
    | (simp only [len, Array.size_extract, List.length_cons, List.length_nil] at *; omega)
    | contradiction
theorem p_r0tn {h : Array Value} {hc : Bool} {i : Nat} (hn : n ≤ 200) (hi : i < n) (hA : ActIs ds (off + i * 5)) (hp : pInv n [] none i) (hv : VOk h hc none)
    (ih : ∀ ms c w h hc v, pInv n ms w ((i : Int) + 1) → VOk h hc v → Good Try.prog okRet 1 [pFr pTodo off n ((i : Int) + 1)] (pM ds ty ms c w h hc v)) : Good Try.prog okRet 1 [pFr pTodo off n i] (pM ds ty [] true none h hc none) := by
  refine past_T EL_ok 1000 (p_step0tn off n ds ty  h hc i) ?_ (fun _ _ h => h) (fun fs m hb => pNext_of hb ih)
  clear ih
  have hj : (i : Int).toNat = i := Int.toNat_natCast i
  have hsz := vok_size hv
  obtain ⟨_, hok, hw, _, _, _⟩ := hp
  have hnew := newM_ok hA
  have b0 := hA.a0; have b1 := hA.a1; have b2 := hA.a2; have b3 := hA.a3; have b4 := hA.a4
  have r1 := hA.r1; have r3 := hA.r3
  simp (disch := omega) only [hj, pi64, newM, beq_self_eq_true, Bool.and_self, Bool.not_true, Bool.false_eq_true, decide_eq_true_eq, decide_eq_false_iff_not, false_implies, true_implies, p_tk]
  repeat' first
    | exact trivial
    | exact hi
    | exact hv
    | exact pInv_of (ms := []) (by simp [len]) trivial rfl hi hn
    | exact vok_put [] hsz rfl (by kernel_rfl) (by simp [len]) trivial rfl
    | apply And.intro
    | intro _
    | exact rfl
    | exact b0 _ (by omega)
    | exact b1 _ (by omega)
    | exact b2 _ (by omega)
    | exact b3 _ (by omega)
    | exact b4 _ (by omega)
    | (simp only [len, Array.size_extract, List.length_cons, List.length_nil] at *; omega)
    | contradiction
theorem p_r0ts {h : Array Value} {hc : Bool} {a' : Array Value} {o' k' : Nat} {i : Nat} (hn : n ≤ 200) (hi : i < n) (hA : ActIs ds (off + i * 5)) (hp : pInv n [] none i) (hv : VOk h hc (some (a', o', k')))
    (ih : ∀ ms c w h hc v, pInv n ms w ((i : Int) + 1) → VOk h hc v → Good Try.prog okRet 1 [pFr pTodo off n ((i : Int) + 1)] (pM ds ty ms c w h hc v)) : Good Try.prog okRet 1 [pFr pTodo off n i] (pM ds ty [] true none h hc (some (a', o', k'))) := by
  refine past_T EL_ok 1000 (p_step0ts off n ds ty  h hc a' o' k' i) ?_ (fun _ _ h => h) (fun fs m hb => pNext_of hb ih)
  clear ih
  have hj : (i : Int).toNat = i := Int.toNat_natCast i
  have hsz := vok_size hv
  obtain ⟨_, hok, hw, _, _, _⟩ := hp
  have hnew := newM_ok hA
  have b0 := hA.a0; have b1 := hA.a1; have b2 := hA.a2; have b3 := hA.a3; have b4 := hA.a4
  have r1 := hA.r1; have r3 := hA.r3
  simp (disch := omega) only [hj, pi64, newM, beq_self_eq_true, Bool.and_self, Bool.not_true, Bool.false_eq_true, decide_eq_true_eq, decide_eq_false_iff_not, false_implies, true_implies, p_tk]
  repeat' first
    | exact trivial
    | exact hi
    | exact hv
    | exact pInv_of (ms := []) (by simp [len]) trivial rfl hi hn
    | exact vok_put [] hsz rfl (by kernel_rfl) (by simp [len]) trivial rfl
    | apply And.intro
    | intro _
    | exact rfl
    | exact b0 _ (by omega)
    | exact b1 _ (by omega)
    | exact b2 _ (by omega)
    | exact b3 _ (by omega)
    | exact b4 _ (by omega)
    | (simp only [len, Array.size_extract, List.length_cons, List.length_nil] at *; omega)
    | contradiction
end
end Go.Proofs.Ytkahmhcfhefneaa
