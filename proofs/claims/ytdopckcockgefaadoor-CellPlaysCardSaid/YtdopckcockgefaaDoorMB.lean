/- Of forests: Kids: its contract. No condition. -/
import Derived.Test.YtdopckcockgefaaDoorMA
import Derived.Test.YtdopckcockgefaaDoorK27
set_option linter.unusedVariables false
set_option linter.unusedSimpArgs false
namespace Go.Proofs.YtdopckcockgefaaDoor
set_option maxRecDepth 100000
set_option linter.unusedSimpArgs false
set_option linter.unusedVariables false
theorem EKd_ok : EnvOk EKd := EnvOk.with E0_ok _ _ conT1_ok
section
variable {ts : Array Value} {h : Int}
def kdP (ts : Array Value) (h : Int) (i : Nat) : List Int := ((lvT ts).take i).filter fun k => upF ts k == h
theorem kdP_succ {i : Nat} (hi : i < (lvT ts).length) : kdP ts h (i + 1) = if (upF ts ((lvT ts).getD i 0) == h) = true then kdP ts h i ++ [(lvT ts).getD i 0] else kdP ts h i := by
 unfold kdP
 rw [List.take_add_one, List.getElem?_eq_getElem hi, List.getD_eq_getElem?_getD, List.getElem?_eq_getElem hi, List.filter_append]
 simp only [Option.toList_some, Option.getD_some]
 rw [List.filter_cons, List.filter_nil]
 split <;> simp
theorem kdP_le (i : Nat) : (kdP ts h i).length ≤ i := by
 have := List.length_filter_le (fun k => upF ts k == h) ((lvT ts).take i)
 rw [List.length_take] at this
 unfold kdP
 omega
theorem kdP_all (hg : gdF ts h = true) : kdP ts h (lvT ts).length = kdF ts h := by
 unfold kdP kdF kidsL
 rw [List.take_length, if_pos hg]
theorem kdP_pre {i j : Nat} (hj : j ≤ (lvT ts).length) (hi : i ≤ j) (e : kdP ts h j = []) : kdP ts h i = [] := by
 induction j with
 | zero =>
  obtain rfl : i = 0 := by omega
  exact e
 | succ j ih =>
  by_cases c : i = j + 1
  ·rw [c]; exact e
  ·refine ih (by omega) (by omega) ?_
   rw [kdP_succ (by omega)] at e
   split at e
   ·simp at e
   ·exact e
theorem lv_len (ts : Array Value) : (lvT ts).length ≤ 32 := issL_le 32
theorem u32s_at {l : List Int} {i : Nat} (hi : i < l.length) : (u32s l)[i]? = some (.int .u32 (l.getD i 0)) := by
 unfold u32s
 rw [List.getElem?_toArray, List.getElem?_map, List.getD_eq_getElem?_getD, List.getElem?_eq_getElem hi]
 rfl
theorem u32s_one (x : Int) : #[Value.int .u32 x] = u32s [x] := rfl
theorem lv_at {i : Nat} (hb : TbOk ts) (hi : i < (lvT ts).length) : (lvT ts).getD i 0 ∈ lvT ts := by
 rw [List.getD_eq_getElem?_getD, List.getElem?_eq_getElem hi]; exact List.getElem_mem _
theorem kZS_good {n : Nat} {rs : Array Value} {A : SV → SMem → Prop} {QZ : Int → Prop} {QS : Int → Nat → Array Value → Prop} {fs : List SFr} {m : SMem} (hz : ∀ i, QZ i → Good Tryd.prog A 0 (kZ_F ts h n rs i) (kZ_M ts h n rs i)) (hs : ∀ i k cs, QS i k cs → Good Tryd.prog A 0 (kS_F ts h n rs i k cs) (kS_M ts h n rs i k cs)) (hb : kZS ts h n rs QZ QS fs m) : Good Tryd.prog A 0 fs m := by
 unfold kZS at hb
 split at hb
 ·split at hb
  ·exact kS_good hs hb
  ·exact kZ_good hz hb
 ·exact hb.elim
theorem kS_ok (hb : TbOk ts) : ∀ (k i : Nat), i + k = (lvT ts).length → Good Tryd.prog (freshA (kdP ts h (lvT ts).length).length (u32s (kdP ts h (lvT ts).length)) 30) 0 (kS_F ts h (lvT ts).length (u32s (lvT ts)) (i : Int) (kdP ts h i).length (u32s (kdP ts h i))) (kS_M ts h (lvT ts).length (u32s (lvT ts)) (i : Int) (kdP ts h i).length (u32s (kdP ts h i))) := by
 have hs := hb.sz
 have hlen := lv_len ts
 intro k
 induction k with
 | zero =>
  intro i hi
  obtain rfl : i = (lvT ts).length := by omega
  refine past_vc EKd_ok 1000 (kd3 ts h _ _ _ _ _ (kdP ts h (lvT ts).length).length (u32s (kdP ts h (lvT ts).length)) (fun _ _ _ => False)) ?_ (fun _ _ h => h) (fun fs m hb => kS_good (fun _ _ _ h => h.elim) hb)
  have d : decide (((lvT ts).length : Int) < ((lvT ts).length : Int)) = false := decide_eq_false (by omega)
  simp only [d, q6]
 | succ k ih =>
  intro i hi
  refine past_vc EKd_ok 1000 (kd3 ts h _ _ (i : Int) _ _ (kdP ts h (lvT ts).length).length (u32s (kdP ts h (lvT ts).length)) (fun i' k' c' => i' = ((i + 1 : Nat) : Int) ∧ k' = (kdP ts h (i + 1)).length ∧ c' = u32s (kdP ts h (i + 1)))) ?_ (fun _ _ h => h) (fun fs m hb => kS_good (fun i' k' c' ⟨e1, e2, e3⟩ => by rw [e1, e2, e3]; exact ih (i + 1) (by omega)) hb)
  have hi' : i < (lvT ts).length := by omega
  have d : decide ((i : Int) < ((lvT ts).length : Int)) = true := decide_eq_true (by omega)
  have ei : ari .add .i64 (i : Int) 1 = ((i + 1 : Nat) : Int) := by rw [ari_add, i64_in' (by omega) (by omega)]; omega
  have g1 : IsInt .u32 (u32s (lvT ts)) i := isI_of (u32s_at hi')
  have g2 : intAt (u32s (lvT ts)) i = (lvT ts).getD i 0 := intAt_of (u32s_at hi')
  have hy : 0 ≤ (lvT ts).getD i 0 ∧ (lvT ts).getD i 0 < 4294967296 := lv_in hb (.inr (lv_at hb hi'))
  have hx0 : 0 ≤ (i : Int) := by omega
  have hx1 : (i : Int) < ((lvT ts).length : Int) := by omega
  have hl : (kdP ts h i).length ≤ i := kdP_le i
  have hl1 : (((kdP ts h i).length + 1) * 4 ≤ 140737488355328 ∧ (kdP ts h i).length + 1 ≤ 140737488355328) := ⟨by omega, by omega⟩
  rw [kdP_succ hi']
  cases c : (upF ts ((lvT ts).getD i 0) == h)
  all_goals
   simp only [d, ei, g1, g2, hy, hx0, hx1, hs, hb, hl1, c, u32s_size, u32s_app, List.length_append, List.length_cons, List.length_nil, if_true, if_false, decide_true, kZ_d0_ok, kS_d0_ok, q7, q6]
theorem kZ_s (hb : TbOk ts) (hne : kdP ts h (lvT ts).length ≠ []) : ∀ (k i : Nat), i + k = (lvT ts).length → kdP ts h i = [] → Good Tryd.prog (freshA (kdP ts h (lvT ts).length).length (u32s (kdP ts h (lvT ts).length)) 30) 0 (kZ_F ts h (lvT ts).length (u32s (lvT ts)) (i : Int)) (kZ_M ts h (lvT ts).length (u32s (lvT ts)) (i : Int)) := by
 have hs := hb.sz
 have hlen := lv_len ts
 intro k
 induction k with
 | zero =>
  intro i hi he
  obtain rfl : i = (lvT ts).length := by omega
  exact absurd he hne
 | succ k ih =>
  intro i hi he
  refine past_vc EKd_ok 1000 (kd2 ts h _ _ (i : Int) (kdP ts h (lvT ts).length).length (u32s (kdP ts h (lvT ts).length)) (fun i' => i' = ((i + 1 : Nat) : Int) ∧ kdP ts h (i + 1) = []) (fun i' k' c' => i' = ((i + 1 : Nat) : Int) ∧ k' = (kdP ts h (i + 1)).length ∧ c' = u32s (kdP ts h (i + 1)))) ?_ (fun _ _ h => h) (fun fs m hb' => kZS_good (fun i' ⟨e1, e2⟩ => by rw [e1]; exact ih (i + 1) (by omega) e2) (fun i' k' c' ⟨e1, e2, e3⟩ => by rw [e1, e2, e3]; exact kS_ok hb k (i + 1) (by omega)) hb')
  have hi' : i < (lvT ts).length := by omega
  have d : decide ((i : Int) < ((lvT ts).length : Int)) = true := decide_eq_true (by omega)
  have ei : ari .add .i64 (i : Int) 1 = ((i + 1 : Nat) : Int) := by rw [ari_add, i64_in' (by omega) (by omega)]; omega
  have g1 : IsInt .u32 (u32s (lvT ts)) i := isI_of (u32s_at hi')
  have g2 : intAt (u32s (lvT ts)) i = (lvT ts).getD i 0 := intAt_of (u32s_at hi')
  have hy : 0 ≤ (lvT ts).getD i 0 ∧ (lvT ts).getD i 0 < 4294967296 := lv_in hb (.inr (lv_at hb hi'))
  have hx0 : 0 ≤ (i : Int) := by omega
  have hx1 : (i : Int) < ((lvT ts).length : Int) := by omega
  rw [kdP_succ hi', he]
  cases c : (upF ts ((lvT ts).getD i 0) == h)
  all_goals
   simp only [d, ei, g1, g2, hy, hx0, hx1, hs, hb, c, u32s_one, List.nil_append, List.length_cons, List.length_nil, if_true, if_false, decide_true, kZ_d0_ok, kS_d0_ok, q7, q6]
theorem kZ_nn (hb : TbOk ts) (hne : kdP ts h (lvT ts).length = []) : ∀ (k i : Nat), i + k = (lvT ts).length → Good Tryd.prog nilK 0 (kZ_F ts h (lvT ts).length (u32s (lvT ts)) (i : Int)) (kZ_M ts h (lvT ts).length (u32s (lvT ts)) (i : Int)) := by
 have hs := hb.sz
 have hlen := lv_len ts
 intro k
 induction k with
 | zero =>
  intro i hi
  obtain rfl : i = (lvT ts).length := by omega
  refine past_vc EKd_ok 1000 (kd1 ts h _ _ _ (fun _ => False) (fun _ _ _ => False)) ?_ (fun _ _ h => h) (fun fs m hb => kZS_good (fun _ h => h.elim) (fun _ _ _ h => h.elim) hb)
  have d : decide (((lvT ts).length : Int) < ((lvT ts).length : Int)) = false := decide_eq_false (by omega)
  simp only [d, q6]
 | succ k ih =>
  intro i hi
  refine past_vc EKd_ok 1000 (kd1 ts h _ _ (i : Int) (fun i' => i' = ((i + 1 : Nat) : Int)) (fun i' k' c' => False)) ?_ (fun _ _ h => h) (fun fs m hb' => kZS_good (fun i' e1 => by rw [e1]; exact ih (i + 1) (by omega)) (fun _ _ _ h => h.elim) hb')
  have hi' : i < (lvT ts).length := by omega
  have d : decide ((i : Int) < ((lvT ts).length : Int)) = true := decide_eq_true (by omega)
  have ei : ari .add .i64 (i : Int) 1 = ((i + 1 : Nat) : Int) := by rw [ari_add, i64_in' (by omega) (by omega)]; omega
  have g1 : IsInt .u32 (u32s (lvT ts)) i := isI_of (u32s_at hi')
  have g2 : intAt (u32s (lvT ts)) i = (lvT ts).getD i 0 := intAt_of (u32s_at hi')
  have hy : 0 ≤ (lvT ts).getD i 0 ∧ (lvT ts).getD i 0 < 4294967296 := lv_in hb (.inr (lv_at hb hi'))
  have hx0 : 0 ≤ (i : Int) := by omega
  have hx1 : (i : Int) < ((lvT ts).length : Int) := by omega
  have he := kdP_pre (h := h) (i := i + 1) (Nat.le_refl _) (by omega) hne
  have c : (upF ts ((lvT ts).getD i 0) == h) = false := by
   rw [kdP_succ hi'] at he
   split at he
   ·simp at he
   ·rename_i k; simpa using k
  simp only [d, ei, g1, g2, hy, hx0, hx1, hs, hb, c, decide_true, kZ_d0_ok, kS_d0_ok, q7, q6]
theorem fnKd : E0.fn 69 = some Tryd.f69 := by kernel_rfl
theorem bodyKd : Tryd.f69.body = some (Tryd.f69.body.getD .skip) := by kernel_rfl
theorem lv_f (ts : Array Value) : issued (bkB ts) = lvT ts := rfl
theorem kids_con (h : Int) (m : SMem) : Con E0 69 [tbS ts, u32 h] m (.need [TbOk ts, inH h] (rowT (kdF ts h) 30 m)) := by
 refine Con.asked fun hq => ?_
 have hb : TbOk ts := hq _ (by simp)
 have hh : inH h := hq _ (by simp)
 have hh' : 0 ≤ h ∧ h < 4294967296 := hh
 have hs := hb.sz
 have h64 : (64 : Nat) ≤ 448 := by decide
 have hbk : BkOk (bkB ts) := hb.bk
 refine Con.two (fun hz => ?_) (fun hz => ?_)
 ·have he : kdF ts h = [] := List.eq_nil_of_length_eq_zero (of_decide_eq_true hz)
  refine (show Con E0 69 [tbS ts, u32 h] m (needs [] _) from Con.pure E0_ok fnKd bodyKd (by kernel_rfl) (by kernel_rfl) fun hq => ?_)
  refine (run_vc EKd_ok 1000 (kdN ts h (lvT ts).length (u32s (lvT ts)) (fun i => i = ((0 : Nat) : Int) ∧ gdF ts h = true)) ?_ (fun s m h => h) fun fs m hm => kd0_go (A := nilK) (fun i ⟨e, e2⟩ => by rw [e]; exact kZ_nn hb (by rw [kdP_all e2]; exact he) (lvT ts).length 0 (by omega)) hm).mono ?_
  ·cases hg : goodB (bkB ts) h with
   | false =>
    simp only [bk_f, hg, hs, h64, hbk, hh', Bool.not_false, q6]
   | true =>
    have hg' : gdF ts h = true := hg
    have hp := List.length_pos_of_mem ((lv_mem hb).2 hg')
    have c0 : decide ((issued (ts.extract 0 64)).length = 0) = false := decide_eq_false (by show ¬ (lvT ts).length = 0; omega)
    ·simp only [c0]
     simp only [bk_f, lv_f, hg, hg', hs, h64, hbk, hh', Bool.not_true, kZ_d0_ok, q6]
     try rfl
  ·intro s m' hs
   unfold nilK at hs
   split at hs
   ·rfl
   ·exact hs.elim
 ·have hne : kdF ts h ≠ [] := fun e => by
   have := of_decide_eq_false hz
   rw [e] at this
   exact this rfl
  have hg' : gdF ts h = true := by
   cases c : gdF ts h with
   | true => rfl
   | false => exact absurd (by unfold kdF; rw [c]; rfl) hne
  have hg : goodB (bkB ts) h = true := hg'
  have ha := kdP_all hg'
  refine (show Con E0 69 [tbS ts, u32 h] m (needs [] _) from Con.fresh E0_ok fnKd bodyKd (by kernel_rfl) rfl fun _ => ?_)
  refine Good.retX ((run_vc EKd_ok 1000 (kdF0 ts h (lvT ts).length (u32s (lvT ts)) (kdF ts h).length (u32s (kdF ts h)) (fun i => i = ((0 : Nat) : Int))) ?_ (fun s m h => h) fun fs m hm => kd0_go (A := freshA (kdF ts h).length (u32s (kdF ts h)) 30) (fun i e => by rw [e, ← ha]; exact kZ_s hb (by rw [ha]; exact hne) (lvT ts).length 0 (by omega) rfl) hm).mono fun s m h => ?_)
  ·have hl : (lvT ts).length ≠ 0 := by
    intro e
    have e0 := List.eq_nil_of_length_eq_zero e
    have hne2 := hne
    rw [← ha] at hne2
    apply hne2
    unfold kdP
    rw [e0]
    rfl
   have c : decide ((lvT ts).length = 0) = false := decide_eq_false hl
   have c0 : decide ((issued (ts.extract 0 64)).length = 0) = false := c
   simp only [c0]
   simp only [bk_f, lv_f, hg, hs, h64, hbk, hh', Bool.not_true, kZ_d0_ok, q6]
   rfl
  ·unfold freshA at h
   split at h
   ·exact ⟨_, h⟩
   ·exact h.elim
end
set_option linter.unusedVariables false
def unA_R (j : Nat) (ts : Array Value) (r : Nat) (ks : Array Value) (q : Nat) (os : Array Value) (n : Nat) (cs : Array Value) (kF : Nat) (csF : Array Value) (QA : Nat → Array Value → Nat → Array Value → Prop) (QB : Int → Nat → Array Value → Nat → Array Value → Prop) : Prop :=
 (((0 ≤ ari .sub .i64 (↑n) 1 ∧ ari .sub .i64 (↑n) 1 < (↑n : Int)) ∧ True) ∧ (IsInt .u32 cs (0 + Int.toNat (ari .sub .i64 (↑n) 1) * 1) ∧ True) ∧ (0 ≤ ari .sub .i64 (↑n) 1 ∧ Int.toNat (ari .sub .i64 (↑n) 1) ≤ n ∧ True) ∧ (((q + 1) * 4 ≤ 140737488355328 ∧ q + 1 ≤ 140737488355328) ∧ q * 1 = Array.size os ∧ True) ∧ (Array.size ts = 448 ∧ True) ∧ (TbOk ts ∧ (0 ≤ intAt cs (0 + Int.toNat (ari .sub .i64 (↑n) 1) * 1) ∧ intAt cs (0 + Int.toNat (ari .sub .i64 (↑n) 1) * 1) < 4294967296) ∧ True) ∧ (decide (List.length (kdF ts (intAt cs (0 + Int.toNat (ari .sub .i64 (↑n) 1) * 1))) = 0) = true → (decide ((↑(Int.toNat (ari .sub .i64 (↑n) 1)) : Int) > 0) = true → QA (q + 1) (os ++ #[Value.int .u32 (intAt cs (0 + Int.toNat (ari .sub .i64 (↑n) 1) * 1))]) (Int.toNat (ari .sub .i64 (↑n) 1)) cs ∧ cN ∧ TodoOk (ren 0 ([(1, 1), (2, 2), (3, 61), (4, 4), (5, 5), (6, 6), (7, 7)] ++ (20 + j, 63) :: idZ j)) uA_d0 uA_d0 ∧ cN ∧ TodoOk (ren 0 ([(1, 1), (2, 2), (3, 61), (4, 4), (5, 5), (6, 6), (7, 7)] ++ (20 + j, 63) :: idZ j)) uA_d1 uA_d1 ∧ 68 = 68 ∧ q + 1 = q + 1 ∧ 30 = 30 ∧ os ++ #[Value.int .u32 (intAt cs (0 + Int.toNat (ari .sub .i64 (↑n) 1) * 1))] = os ++ #[Value.int .u32 (intAt cs (0 + Int.toNat (ari .sub .i64 (↑n) 1) * 1))] ∧ 68 = 68 ∧ Int.toNat (ari .sub .i64 (↑n) 1) = Int.toNat (ari .sub .i64 (↑n) 1) ∧ 39 = 39 ∧ ts = ts ∧ 30 = 30 ∧ cs = cs ∧ EqL unLp unLp ∧ True) ∧ (decide ((↑(Int.toNat (ari .sub .i64 (↑n) 1)) : Int) > 0) = false → kF = q + 1 ∧ 30 = 30 ∧ csF = os ++ #[Value.int .u32 (intAt cs (0 + Int.toNat (ari .sub .i64 (↑n) 1) * 1))] ∧ True)) ∧ (decide (List.length (kdF ts (intAt cs (0 + Int.toNat (ari .sub .i64 (↑n) 1) * 1))) = 0) = false → (decide (ari .sub .i64 (↑(List.length (kdF ts (intAt cs (0 + Int.toNat (ari .sub .i64 (↑n) 1) * 1)))) : Int) (1 : Int) ≥ 0) = true → QB (ari .sub .i64 (↑(List.length (kdF ts (intAt cs (0 + Int.toNat (ari .sub .i64 (↑n) 1) * 1)))) : Int) (1 : Int)) (q + 1) (os ++ #[Value.int .u32 (intAt cs (0 + Int.toNat (ari .sub .i64 (↑n) 1) * 1))]) (Int.toNat (ari .sub .i64 (↑n) 1)) cs ∧ cN ∧ TodoOk (ren 0 ([(1, 1), (2, 2), (4, 4), (5, 5), (6, 6), (7, 7), (61, 61), (62, 62), (63, 63), (65, 65)] ++ (20 + j, 64) :: idZ j)) uB_d0 uB_d0 ∧ ari .sub .i64 (↑(List.length (kdF ts (intAt cs (0 + Int.toNat (ari .sub .i64 (↑n) 1) * 1)))) : Int) (1 : Int) = ari .sub .i64 (↑(List.length (kdF ts (intAt cs (0 + Int.toNat (ari .sub .i64 (↑n) 1) * 1)))) : Int) (1 : Int) ∧ cN ∧ TodoOk (ren 0 ([(1, 1), (2, 2), (4, 4), (5, 5), (6, 6), (7, 7), (61, 61), (62, 62), (63, 63), (65, 65)] ++ (20 + j, 64) :: idZ j)) uB_d1 uB_d1 ∧ cN ∧ TodoOk (ren 0 ([(1, 1), (2, 2), (4, 4), (5, 5), (6, 6), (7, 7), (61, 61), (62, 62), (63, 63), (65, 65)] ++ (20 + j, 64) :: idZ j)) uA_d1 uA_d1 ∧ 68 = 68 ∧ q + 1 = q + 1 ∧ 68 = 68 ∧ Int.toNat (ari .sub .i64 (↑n) 1) = Int.toNat (ari .sub .i64 (↑n) 1) ∧ 68 = 68 ∧ r = List.length (kdF ts (intAt cs (0 + Int.toNat (ari .sub .i64 (↑n) 1) * 1))) ∧ 30 = 30 ∧ os ++ #[Value.int .u32 (intAt cs (0 + Int.toNat (ari .sub .i64 (↑n) 1) * 1))] = os ++ #[Value.int .u32 (intAt cs (0 + Int.toNat (ari .sub .i64 (↑n) 1) * 1))] ∧ 39 = 39 ∧ ts = ts ∧ 30 = 30 ∧ cs = cs ∧ 30 = 30 ∧ ks = u32s (kdF ts (intAt cs (0 + Int.toNat (ari .sub .i64 (↑n) 1) * 1))) ∧ EqL unLp unLp ∧ EqL wkLp wkLp ∧ True) ∧ (decide (ari .sub .i64 (↑(List.length (kdF ts (intAt cs (0 + Int.toNat (ari .sub .i64 (↑n) 1) * 1)))) : Int) (1 : Int) ≥ 0) = false → (decide ((↑(Int.toNat (ari .sub .i64 (↑n) 1)) : Int) > 0) = true → QA (q + 1) (os ++ #[Value.int .u32 (intAt cs (0 + Int.toNat (ari .sub .i64 (↑n) 1) * 1))]) (Int.toNat (ari .sub .i64 (↑n) 1)) cs ∧ cN ∧ TodoOk (ren 0 ([(1, 1), (2, 2), (3, 61), (4, 4), (5, 5), (6, 6), (7, 7)] ++ (20 + j, 64) :: idZ j)) uA_d0 uA_d0 ∧ cN ∧ TodoOk (ren 0 ([(1, 1), (2, 2), (3, 61), (4, 4), (5, 5), (6, 6), (7, 7)] ++ (20 + j, 64) :: idZ j)) uA_d1 uA_d1 ∧ 68 = 68 ∧ q + 1 = q + 1 ∧ 30 = 30 ∧ os ++ #[Value.int .u32 (intAt cs (0 + Int.toNat (ari .sub .i64 (↑n) 1) * 1))] = os ++ #[Value.int .u32 (intAt cs (0 + Int.toNat (ari .sub .i64 (↑n) 1) * 1))] ∧ 68 = 68 ∧ Int.toNat (ari .sub .i64 (↑n) 1) = Int.toNat (ari .sub .i64 (↑n) 1) ∧ 39 = 39 ∧ ts = ts ∧ 30 = 30 ∧ cs = cs ∧ EqL unLp unLp ∧ True) ∧ (decide ((↑(Int.toNat (ari .sub .i64 (↑n) 1)) : Int) > 0) = false → kF = q + 1 ∧ 30 = 30 ∧ csF = os ++ #[Value.int .u32 (intAt cs (0 + Int.toNat (ari .sub .i64 (↑n) 1) * 1))] ∧ True))))
theorem unA_all : ∀ j, j < 33 → ∀ (ts : Array Value) (r : Nat) (ks : Array Value) (q : Nat) (os : Array Value) (n : Nat) (cs : Array Value) (kF : Nat) (csF : Array Value) (QA : Nat → Array Value → Nat → Array Value → Prop) (QB : Int → Nat → Array Value → Nat → Array Value → Prop), (stepT EUn.go (run EUn 1000) 0 (uA_F j ts q os n cs) (uA_M j ts q os n cs)).vc (freshA kF csF 30) (uAB j ts r ks QA QB) = unA_R j ts r ks q os n cs kF csF QA QB
 | 0, _ | 1, _ | 2, _ | 3, _ | 4, _ | 5, _ | 6, _ | 7, _ | 8, _ | 9, _ | 10, _ | 11, _ | 12, _ | 13, _ | 14, _ | 15, _ | 16, _ | 17, _ | 18, _ | 19, _ | 20, _ | 21, _ | 22, _ | 23, _ | 24, _ | 25, _ | 26, _ | 27, _ | 28, _ | 29, _ | 30, _ | 31, _ | 32, _ => fun ts r ks q os n cs kF csF QA QB => by kernel_rfl
 | n + 33, h => by omega
def unB_R (j : Nat) (ts : Array Value) (r : Nat) (ks : Array Value) (i : Int) (q : Nat) (os : Array Value) (n : Nat) (cs : Array Value) (kF : Nat) (csF : Array Value) (QA : Nat → Array Value → Nat → Array Value → Prop) (QB : Int → Nat → Array Value → Nat → Array Value → Prop) : Prop :=
 ((((0 : Int) ≤ i ∧ i < (↑r : Int)) ∧ True) ∧ (IsInt IntKind.u32 ks ((0 : Nat) + Int.toNat i * 1) ∧ True) ∧ (((n + 1) * 4 ≤ (140737488355328 : Nat) ∧ n + 1 ≤ (140737488355328 : Nat)) ∧ n * 1 ≤ Array.size cs ∧ True) ∧ (decide (ari BinOp.sub IntKind.i64 i (1 : Int) ≥ (0 : Int)) = true → QB (ari BinOp.sub IntKind.i64 i (1 : Int)) q os (n + 1) (Array.extract cs (0 : Nat) (n * 1) ++ #[Value.int IntKind.u32 (intAt ks ((0 : Nat) + Int.toNat i * 1))]) ∧ cN ∧ TodoOk (ren 0 ([(1, 1), (2, 2), (4, 4), (5, 5), (6, 67), (7, 7), (61, 61), (62, 62), (63, 63), (65, 65)] ++ idZ (j + 1))) uB_d0 uB_d0 ∧ ari BinOp.sub IntKind.i64 i (1 : Int) = ari BinOp.sub IntKind.i64 i (1 : Int) ∧ cN ∧ TodoOk (ren 0 ([(1, 1), (2, 2), (4, 4), (5, 5), (6, 67), (7, 7), (61, 61), (62, 62), (63, 63), (65, 65)] ++ idZ (j + 1))) uB_d1 uB_d1 ∧ cN ∧ TodoOk (ren 0 ([(1, 1), (2, 2), (4, 4), (5, 5), (6, 67), (7, 7), (61, 61), (62, 62), (63, 63), (65, 65)] ++ idZ (j + 1))) uA_d1 uA_d1 ∧ (68 : TypeId) = (68 : TypeId) ∧ q = q ∧ (68 : TypeId) = (68 : TypeId) ∧ n + 1 = n + 1 ∧ (68 : TypeId) = (68 : TypeId) ∧ r = r ∧ (30 : TypeId) = (30 : TypeId) ∧ os = os ∧ (39 : TypeId) = (39 : TypeId) ∧ ts = ts ∧ (30 : TypeId) = (30 : Nat) ∧ Array.extract cs (0 : Nat) (n * 1) ++ #[Value.int IntKind.u32 (intAt ks ((0 : Nat) + Int.toNat i * 1))] = Array.extract cs (0 : Nat) (n * 1) ++ #[Value.int IntKind.u32 (intAt ks ((0 : Nat) + Int.toNat i * 1))] ∧ (30 : TypeId) = (30 : TypeId) ∧ ks = ks ∧ EqL unLp unLp ∧ EqL wkLp wkLp ∧ True) ∧ (decide (ari BinOp.sub IntKind.i64 i (1 : Int) ≥ (0 : Int)) = false → (decide ((↑(n + 1) : Int) > (0 : Int)) = true → QA q os (n + 1) (Array.extract cs (0 : Nat) (n * 1) ++ #[Value.int IntKind.u32 (intAt ks ((0 : Nat) + Int.toNat i * 1))]) ∧ cN ∧ TodoOk (ren 0 ([(1, 1), (2, 2), (3, 61), (4, 4), (5, 5), (6, 67), (7, 7)] ++ idZ (j + 1))) uA_d0 uA_d0 ∧ cN ∧ TodoOk (ren 0 ([(1, 1), (2, 2), (3, 61), (4, 4), (5, 5), (6, 67), (7, 7)] ++ idZ (j + 1))) uA_d1 uA_d1 ∧ (68 : TypeId) = (68 : TypeId) ∧ q = q ∧ (30 : TypeId) = (30 : TypeId) ∧ os = os ∧ (68 : TypeId) = (68 : TypeId) ∧ n + 1 = n + 1 ∧ (39 : TypeId) = (39 : TypeId) ∧ ts = ts ∧ (30 : TypeId) = (30 : Nat) ∧ Array.extract cs (0 : Nat) (n * 1) ++ #[Value.int IntKind.u32 (intAt ks ((0 : Nat) + Int.toNat i * 1))] = Array.extract cs (0 : Nat) (n * 1) ++ #[Value.int IntKind.u32 (intAt ks ((0 : Nat) + Int.toNat i * 1))] ∧ EqL unLp unLp ∧ True) ∧ (decide ((↑(n + 1) : Int) > (0 : Int)) = false → kF = q ∧ (30 : TypeId) = (30 : TypeId) ∧ csF = os ∧ True)))
theorem unB_all : ∀ j, j < 33 → ∀ (ts : Array Value) (r : Nat) (ks : Array Value) (i : Int) (q : Nat) (os : Array Value) (n : Nat) (cs : Array Value) (kF : Nat) (csF : Array Value) (QA : Nat → Array Value → Nat → Array Value → Prop) (QB : Int → Nat → Array Value → Nat → Array Value → Prop), (stepT EUn.go (run EUn 1000) 0 (uB_F j ts r ks i q os n cs) (uB_M j ts r ks i q os n cs)).vc (freshA kF csF 30) (uAB j ts r ks QA QB) = unB_R j ts r ks i q os n cs kF csF QA QB
 | 0, _ | 1, _ | 2, _ | 3, _ | 4, _ | 5, _ | 6, _ | 7, _ | 8, _ | 9, _ | 10, _ | 11, _ | 12, _ | 13, _ | 14, _ | 15, _ | 16, _ | 17, _ | 18, _ | 19, _ | 20, _ | 21, _ | 22, _ | 23, _ | 24, _ | 25, _ | 26, _ | 27, _ | 28, _ | 29, _ | 30, _ | 31, _ | 32, _ => fun ts r ks i q os n cs kF csF QA QB => by kernel_rfl
 | n + 33, h => by omega
set_option linter.unusedVariables false
theorem conT2_ok : ∀ g l m t, conT2 g l m = some t → Con E0 g l m t := by
 intro g l m t h
 unfold conT2 at h
 split at h
 ·rename_i ts x; cases h
  exact Con.n1 (kids_con x.den m)
 ·rename_i ts x; cases h
  exact Con.n1 (depth_con x.den m)
 ·rename_i ts x; cases h
  exact Con.n1 (root_con x.den m)
 ·rename_i ts a x; cases h
  exact Con.n2 (out_con a.den x.den m)
 ·rename_i ts x u; cases h
  exact Con.n2 (raise_con x.den u.den m)
 ·exact conT1_ok _ _ _ _ h
theorem EU0_ok : EnvOk EU0 := EnvOk.with E0_ok _ _ conT2_ok
theorem EUn_ok : EnvOk EUn := EnvOk.with E0_ok _ _ conT2_ok
section
variable {ts : Array Value} {h : Int}
def Stk (cs : Array Value) (st : List Int) : Prop := st.length ≤ cs.size ∧ ∀ i, i < st.length → cs[i]? = some (.int .u32 (st.getD i 0))
theorem Stk.pop {cs : Array Value} {st : List Int} {x : Int} (hs : Stk cs (st ++ [x])) : Stk cs st ∧ cs[st.length]? = some (.int .u32 x) := by
 obtain ⟨h1, h2⟩ := hs
 rw [List.length_append] at h1 h2
 refine ⟨⟨by omega, fun i hi => ?_⟩, ?_⟩
 ·rw [h2 i (by omega), List.getD_eq_getElem?_getD, List.getElem?_append_left hi, List.getD_eq_getElem?_getD]
 ·have := h2 st.length (by simp)
  rw [this, List.getD_eq_getElem?_getD, List.getElem?_append_right (Nat.le_refl _), Nat.sub_self]
  rfl
theorem Stk.push {cs : Array Value} {st : List Int} {x : Int} (hs : Stk cs st) : Stk (cs.extract 0 st.length ++ #[.int .u32 x]) (st ++ [x]) := by
 obtain ⟨h1, h2⟩ := hs
 have e : (cs.extract 0 st.length).size = st.length := by rw [Array.size_extract]; omega
 refine ⟨by rw [Array.size_append, e, List.length_append]; exact Nat.le_refl _, fun i hi => ?_⟩
 rw [List.length_append] at hi
 by_cases c : i < st.length
 ·rw [Array.getElem?_append_left (by omega), ext_get (by omega) (by omega), Nat.zero_add, h2 i c, List.getD_eq_getElem?_getD, List.getD_eq_getElem?_getD, List.getElem?_append_left c]
 ·have hi' : i = st.length := by
   have : i < st.length + 1 := hi
   omega
  rw [hi', Array.getElem?_append_right (by omega), e, Nat.sub_self, List.getD_eq_getElem?_getD, List.getElem?_append_right (Nat.le_refl _), Nat.sub_self]
  rfl
def unT (ts : Array Value) (h : Int) : List Int := if gdF ts h = true then unL (lvT ts) (upF ts) h else []
theorem un_32 (hf : FIn ts) {x : Int} (hx : x ∈ lvT ts) : (unL (lvT ts) (upF ts) x).length ≤ 32 := Nat.le_trans (un_len hf.fo hx) (lv_len ts)
theorem last_split {st : List Int} (h : st ≠ []) : ∃ s x, st = s ++ [x] := ⟨st.dropLast, st.getLast h, (List.dropLast_concat_getLast h).symm⟩
theorem kdF_eq (hf : FIn ts) {x : Int} (hx : x ∈ lvT ts) : kdF ts x = kidsL (lvT ts) (upF ts) x := by
 unfold kdF; rw [if_pos ((lv_mem hf.ok).1 hx)]
theorem kd_len (ts : Array Value) (x : Int) : (kdF ts x).length ≤ 32 := by
 unfold kdF
 split
 ·exact Nat.le_trans (List.length_filter_le _ _) (lv_len ts)
 ·exact Nat.zero_le _
abbrev UNL (ts : Array Value) (x : Int) : List Int := unL (lvT ts) (upF ts) x
theorem flat_len {f : Int → List Int} : ∀ {l : List Int}, (∀ y ∈ l, 1 ≤ (f y).length) → l.length ≤ (l.flatMap f).length
 | [], _ => Nat.le_refl _
 | a :: l, h => by
  have := flat_len (l := l) fun y hy => h y (List.mem_cons_of_mem _ hy)
  have := h a (List.mem_cons_self ..)
  rw [List.flatMap_cons, List.length_append, List.length_cons]
  omega
theorem unl_cons (hf : FIn ts) {x : Int} (hx : x ∈ lvT ts) : UNL ts x = x :: (kidsL (lvT ts) (upF ts) x).flatMap (UNL ts) := un_cons hf.fo hx
theorem uAB_good {j r : Nat} {ks : Array Value} {A : SV → SMem → Prop} {QA : Nat → Array Value → Nat → Array Value → Prop} {QB : Int → Nat → Array Value → Nat → Array Value → Prop} {fs : List SFr} {m : SMem} (hA : ∀ q os n cs, QA q os n cs → Good Tryd.prog A 0 (uA_F (j + 1) ts q os n cs) (uA_M (j + 1) ts q os n cs)) (hB : ∀ i q os n cs, QB i q os n cs → Good Tryd.prog A 0 (uB_F j ts r ks i q os n cs) (uB_M j ts r ks i q os n cs)) (hb : uAB j ts r ks QA QB fs m) : Good Tryd.prog A 0 fs m := by
 unfold uAB at hb
 split at hb
 ·exact uA_good hA hb
 ·exact uB_good hB hb
theorem i64_sub1 {i : Int} (h : 0 ≤ i ∧ i < 1000000) : ari .sub .i64 i 1 = i - 1 := by rw [ari_sub, i64_in' (by omega) (by omega)]
theorem unB_S {j r : Nat} {ks : Array Value} {i : Int} {q : Nat} {os : Array Value} {n : Nat} {cs : Array Value} {kF : Nat} {csF : Array Value} {QA : Nat → Array Value → Nat → Array Value → Prop} {QB : Int → Nat → Array Value → Nat → Array Value → Prop} (hr : r ≤ 1000) (hn : n ≤ 1000)
  (h1 : 0 ≤ i ∧ i < (r : Int)) (h2 : IsInt .u32 ks i.toNat) (h4 : n ≤ cs.size) (hB : 1 ≤ i → QB (i - 1) q os (n + 1) (cs.extract 0 n ++ #[.int .u32 (intAt ks i.toNat)])) (hA : ¬ 1 ≤ i → QA q os (n + 1) (cs.extract 0 n ++ #[.int .u32 (intAt ks i.toNat)])) : unB_R j ts r ks i q os n cs kF csF QA QB := by
 have e := i64_sub1 (i := i) ⟨h1.1, by omega⟩
 have d2 : decide (((n + 1 : Nat) : Int) > 0) = true := decide_eq_true (by omega)
 have hl1 : ((n + 1) * 4 ≤ 140737488355328 ∧ n + 1 ≤ 140737488355328) := ⟨by omega, by omega⟩
 have t1 : TodoOk (ren 0 ([(1, 1), (2, 2), (4, 4), (5, 5), (6, 67), (7, 7), (61, 61), (62, 62), (63, 63), (65, 65)] ++ idZ (j + 1))) uB_d1 uB_d1 := TodoOk.rf rfl (by kernel_rfl)
 have t2 : TodoOk (ren 0 ([(1, 1), (2, 2), (4, 4), (5, 5), (6, 67), (7, 7), (61, 61), (62, 62), (63, 63), (65, 65)] ++ idZ (j + 1))) uA_d1 uA_d1 := TodoOk.rf rfl (by kernel_rfl)
 have t3 : TodoOk (ren 0 ([(1, 1), (2, 2), (3, 61), (4, 4), (5, 5), (6, 67), (7, 7)] ++ idZ (j + 1))) uA_d1 uA_d1 := TodoOk.rf rfl (by kernel_rfl)
 unfold unB_R
 simp only [e, d2, hl1, h1, h2, h4, t1, t2, t3, EqL_self, Nat.mul_one, Nat.zero_add, uA_d0_ok, uB_d0_ok, q6]
 refine ⟨fun k => hB (by have := of_decide_eq_true k; omega), fun k => hA (by have := of_decide_eq_false k; omega)⟩
section
variable {U : List Int}
theorem uB_ok {j : Nat} {o st0 K : List Int} (hj : j < 32) (hK : K.length ≤ 32) (hst : st0.length ≤ 64)
  (hA : ∀ cs, Stk cs (st0 ++ K.reverse) → Good Tryd.prog (freshA U.length (u32s U) 30) 0 (uA_F (j + 1) ts o.length (u32s o) (st0 ++ K.reverse).length cs) (uA_M (j + 1) ts o.length (u32s o) (st0 ++ K.reverse).length cs)) :
  ∀ (i : Nat) (cs : Array Value), i < K.length → Stk cs (st0 ++ (K.drop (i + 1)).reverse) → Good Tryd.prog (freshA U.length (u32s U) 30) 0 (uB_F j ts K.length (u32s K) (i : Int) o.length (u32s o) (st0 ++ (K.drop (i + 1)).reverse).length cs) (uB_M j ts K.length (u32s K) (i : Int) o.length (u32s o) (st0 ++ (K.drop (i + 1)).reverse).length cs) := by
 intro i
 induction i with
 | zero =>
  intro cs hi hs
  have hpush := hs.push (x := K.getD 0 0)
  have e0 : (st0 ++ (K.drop (0 + 1)).reverse) ++ [K.getD 0 0] = st0 ++ K.reverse := by
   rw [List.append_assoc]
   congr 1
   cases K with
   | nil => exact absurd hi (by simp)
   | cons a l => simp
  rw [e0] at hpush
  have el : (st0 ++ (K.drop (0 + 1)).reverse).length + 1 = (st0 ++ K.reverse).length := by
   have := congrArg List.length e0
   simp only [List.length_append, List.length_cons, List.length_nil] at this ⊢
   omega
  have hk := u32s_at hi
  have hl : (st0 ++ (K.drop (0 + 1)).reverse).length ≤ 96 := by rw [List.length_append, List.length_reverse, List.length_drop]; omega
  refine past_vc EUn_ok 1000 (unB_all j (by omega) ts _ _ _ _ _ _ _ U.length (u32s U) (fun q os n c => q = o.length ∧ os = u32s o ∧ n = (st0 ++ K.reverse).length ∧ Stk c (st0 ++ K.reverse)) (fun _ _ _ _ _ => False)) ?_ (fun _ _ h => h) (fun fs m hb => uAB_good (fun q os n c ⟨e1, e2, e3, e4⟩ => by rw [e1, e2, e3]; exact hA c e4) (fun _ _ _ _ _ h => h.elim) hb)
  refine unB_S (by omega) (by omega) ⟨by omega, by omega⟩ (isI_of hk) hs.1 (fun k => absurd k (by decide)) (fun _ => ⟨rfl, rfl, el, ?_⟩)
  rw [show (((0 : Nat) : Int)).toNat = 0 from rfl, intAt_of hk]
  exact hpush
 | succ i ih =>
  intro cs hi hs
  have hpush := hs.push (x := K.getD (i + 1) 0)
  have e0 : (st0 ++ (K.drop (i + 1 + 1)).reverse) ++ [K.getD (i + 1) 0] = st0 ++ (K.drop (i + 1)).reverse := by
   rw [List.append_assoc]
   congr 1
   rw [List.drop_eq_getElem_cons hi, List.reverse_cons, List.getD_eq_getElem?_getD, List.getElem?_eq_getElem hi]
   rfl
  rw [e0] at hpush
  have el : (st0 ++ (K.drop (i + 1 + 1)).reverse).length + 1 = (st0 ++ (K.drop (i + 1)).reverse).length := by
   have := congrArg List.length e0
   simp only [List.length_append, List.length_cons, List.length_nil] at this ⊢
   omega
  have hk := u32s_at hi
  have hl : (st0 ++ (K.drop (i + 1 + 1)).reverse).length ≤ 96 := by rw [List.length_append, List.length_reverse, List.length_drop]; omega
  refine past_vc EUn_ok 1000 (unB_all j (by omega) ts _ _ _ _ _ _ _ U.length (u32s U) (fun _ _ _ _ => False) (fun i' q os n c => i' = (i : Int) ∧ q = o.length ∧ os = u32s o ∧ n = (st0 ++ (K.drop (i + 1)).reverse).length ∧ Stk c (st0 ++ (K.drop (i + 1)).reverse))) ?_ (fun _ _ h => h) (fun fs m hb => uAB_good (fun _ _ _ _ h => h.elim) (fun i' q os n c ⟨e0, e1, e2, e3, e4⟩ => by rw [e0, e1, e2, e3]; exact ih c (by omega) e4) hb)
  refine unB_S (by omega) (by omega) ⟨by omega, by omega⟩ (by rw [Int.toNat_natCast]; exact isI_of hk) hs.1 (fun _ => ⟨by omega, rfl, rfl, el, ?_⟩) (fun k => absurd (show (1 : Int) ≤ ((i + 1 : Nat) : Int) by omega) k)
  rw [Int.toNat_natCast, intAt_of hk]
  exact hpush
end
theorem unA_S {j r : Nat} {ks : Array Value} {q : Nat} {os : Array Value} {n' : Nat} {cs : Array Value} {x : Int} {kF : Nat} {csF : Array Value} {QA : Nat → Array Value → Nat → Array Value → Prop} {QB : Int → Nat → Array Value → Nat → Array Value → Prop} (hb : TbOk ts) (hx : cs[n']? = some (.int .u32 x)) (hxi : inH x) (hq : q ≤ 1000) (hos : os.size = q) (hn : n' ≤ 1000)
  (h0 : kdF ts x = [] → (n' ≠ 0 → QA (q + 1) (os ++ #[.int .u32 x]) n' cs) ∧ (n' = 0 → kF = q + 1 ∧ csF = os ++ #[.int .u32 x]))
  (h1 : kdF ts x ≠ [] → QB (((kdF ts x).length - 1 : Nat) : Int) (q + 1) (os ++ #[.int .u32 x]) n' cs ∧ r = (kdF ts x).length ∧ ks = u32s (kdF ts x)) : unA_R j ts r ks q os (n' + 1) cs kF csF QA QB := by
 have e : ari .sub .i64 (((n' + 1 : Nat) : Int)) 1 = (n' : Int) := by rw [i64_sub1 ⟨by omega, by omega⟩]; omega
 have g1 : IsInt .u32 cs n' := isI_of hx
 have g2 : intAt cs n' = x := intAt_of hx
 have hxi' : 0 ≤ x ∧ x < 4294967296 := hxi
 have hl1 : ((q + 1) * 4 ≤ 140737488355328 ∧ q + 1 ≤ 140737488355328) := ⟨by omega, by omega⟩
 have hs := hb.sz
 have y0 : 0 ≤ (n' : Int) := by omega
 have y1 : (n' : Int) < ((n' + 1 : Nat) : Int) := by omega
 have y2 : n' ≤ n' + 1 := by omega
 have hkl := kd_len ts x
 have t1 : ∀ k, TodoOk (ren 0 ([(1, 1), (2, 2), (3, 61), (4, 4), (5, 5), (6, 6), (7, 7)] ++ (20 + j, k) :: idZ j)) uA_d1 uA_d1 := fun k => TodoOk.rf rfl (by kernel_rfl)
 have t2 : ∀ k, TodoOk (ren 0 ([(1, 1), (2, 2), (4, 4), (5, 5), (6, 6), (7, 7), (61, 61), (62, 62), (63, 63), (65, 65)] ++ (20 + j, k) :: idZ j)) uB_d1 uB_d1 := fun k => TodoOk.rf rfl (by kernel_rfl)
 have t3 : ∀ k, TodoOk (ren 0 ([(1, 1), (2, 2), (4, 4), (5, 5), (6, 6), (7, 7), (61, 61), (62, 62), (63, 63), (65, 65)] ++ (20 + j, k) :: idZ j)) uA_d1 uA_d1 := fun k => TodoOk.rf rfl (by kernel_rfl)
 unfold unA_R
 simp only [e, g1, g2, hxi', hl1, hs, hb, hos, y0, y1, y2, t1, t2, t3, EqL_self, and_true, true_and, uA_d0_ok, uB_d0_ok, q7, cNt]
 constructor
 ·intro k
  obtain ⟨a, b⟩ := h0 (List.eq_nil_of_length_eq_zero (of_decide_eq_true k))
  exact ⟨fun c => a (by have := of_decide_eq_true c; omega), fun c => b (by have := of_decide_eq_false c; omega)⟩
 ·intro k
  have hne : kdF ts x ≠ [] := fun e => of_decide_eq_false k (by rw [e]; rfl)
  have hp := List.length_pos_iff.2 hne
  obtain ⟨a, b, c⟩ := h1 hne
  have e2 : ari .sub .i64 ((kdF ts x).length : Int) 1 = (((kdF ts x).length - 1 : Nat) : Int) := by rw [i64_sub1 ⟨by omega, by omega⟩]; omega
  have d : decide ((((kdF ts x).length - 1 : Nat) : Int) ≥ 0) = true := decide_eq_true (by omega)
  simp only [e2, d, true_implies, Bool.true_eq_false, false_implies, and_true]
  exact ⟨a, b, c⟩
theorem u32s_rev (o : List Int) (x : Int) : u32s o ++ #[.int .u32 x] = u32s (o ++ [x]) := (u32s_app o x).symm
theorem uA_ok (hf : FIn ts) {h : Int} (hh : h ∈ lvT ts) : ∀ (rem : Nat) (o st : List Int) (cs : Array Value), (UNL ts h).length - o.length < rem → st ≠ [] → Stk cs st → (∀ y ∈ st, y ∈ lvT ts) → o ++ st.reverse.flatMap (UNL ts) = UNL ts h → Good Tryd.prog (freshA (UNL ts h).length (u32s (UNL ts h)) 30) 0 (uA_F o.length ts o.length (u32s o) st.length cs) (uA_M o.length ts o.length (u32s o) st.length cs) := by
 have hU : (UNL ts h).length ≤ 32 := un_32 hf hh
 have hb := hf.ok
 intro rem
 induction rem with
 | zero => intro o st cs hr; omega
 | succ rem ih =>
  intro o st cs hr hne hs hsub hsum
  obtain ⟨st0, x, rfl⟩ := last_split hne
  have hx : x ∈ lvT ts := hsub x (by simp)
  obtain ⟨hs0, hx0⟩ := hs.pop
  have hsum2 : (o ++ [x]) ++ ((kidsL (lvT ts) (upF ts) x).flatMap (UNL ts) ++ st0.reverse.flatMap (UNL ts)) = UNL ts h := by
   rw [← hsum, List.reverse_append, List.reverse_cons, List.reverse_nil, List.nil_append, List.cons_append, List.nil_append, List.flatMap_cons, unl_cons hf hx]
   simp only [List.append_assoc, List.cons_append, List.nil_append]
  have ho : o.length < (UNL ts h).length := by
   have := congrArg List.length hsum2
   simp only [List.length_append, List.length_cons, List.length_nil] at this
   omega
  have hel : (st0 ++ [x]).length = st0.length + 1 := by rw [List.length_append]; rfl
  have hst0 : st0.length ≤ 64 := by
   have h1 := flat_len (f := UNL ts) (l := st0.reverse) fun y hy => by
    rw [unl_cons hf (hsub y (List.mem_append_left _ (List.mem_reverse.1 hy)))]
    exact Nat.le_add_left 1 _
   rw [List.length_reverse] at h1
   have h2 := congrArg List.length hsum2
   simp only [List.length_append, List.length_cons, List.length_nil] at h2
   omega
  have kd := kdF_eq hf hx
  have hkl := kd_len ts x
  rw [hel]
  have eo : (o ++ [x]).length = o.length + 1 := by rw [List.length_append]; rfl
  have ho32 : o.length < 32 := by omega
  refine past_vc EUn_ok 1000 (unA_all o.length (by omega) ts (kdF ts x).length (u32s (kdF ts x)) _ _ _ _ (UNL ts h).length (u32s (UNL ts h))
   (fun q os n c => q = (o ++ [x]).length ∧ os = u32s (o ++ [x]) ∧ n = st0.length ∧ c = cs ∧ st0 ≠ [] ∧ kdF ts x = [])
   (fun i q os n c => i = (((kdF ts x).length - 1 : Nat) : Int) ∧ q = (o ++ [x]).length ∧ os = u32s (o ++ [x]) ∧ n = st0.length ∧ c = cs ∧ kdF ts x ≠ [])) ?_ (fun _ _ h => h)
   (fun fs m hg => uAB_good (fun q os n c ⟨e1, e2, e3, e4, e5, e6⟩ => ?_) (fun i q os n c ⟨e0, e1, e2, e3, e4, e5⟩ => ?_) hg)
  ·refine unA_S hb hx0 (lv_in hb (.inr hx)) (by omega) (u32s_size o) (by omega) (fun k => ⟨fun k2 => ⟨eo.symm, u32s_rev o x, rfl, rfl, fun e => k2 (by rw [e]; rfl), k⟩, fun k2 => ?_⟩) (fun k => ⟨⟨rfl, eo.symm, u32s_rev o x, rfl, rfl, k⟩, rfl, rfl⟩)
   have e0 : st0 = [] := List.eq_nil_of_length_eq_zero k2
   rw [kd] at k
   rw [k, e0] at hsum2
   have e3 : UNL ts h = o ++ [x] := by
    rw [← hsum2]
    simp
   rw [e3, eo]
   exact ⟨rfl, (u32s_rev o x).symm⟩
  ·rw [e1, e2, e3, e4, ← eo]
   rw [kd] at e6
   rw [e6] at hsum2
   refine ih (o ++ [x]) st0 cs (by rw [eo]; omega) e5 hs0 (fun y hy => hsub y (List.mem_append_left _ hy)) ?_
   simpa using hsum2
  ·rw [e0, e1, e2, e3, e4]
   have hp := List.length_pos_iff.2 e5
   have hdrop : (kdF ts x).drop ((kdF ts x).length - 1 + 1) = [] := List.drop_eq_nil_of_le (by omega)
   have := uB_ok (ts := ts) (U := UNL ts h) (j := o.length) (o := o ++ [x]) (st0 := st0) (K := kdF ts x) (by omega) hkl hst0 (fun c hc => ?_) ((kdF ts x).length - 1) cs (by omega) (by rw [hdrop]; simpa using hs0)
   ·rw [hdrop] at this
    simpa using this
   ·rw [← eo]
    have hsub2 : ∀ y ∈ st0 ++ (kdF ts x).reverse, y ∈ lvT ts := fun y hy => by
     rcases List.mem_append.1 hy with k | k
     ·exact hsub y (List.mem_append_left _ k)
     ·rw [kd] at k
      exact (kids_memL.1 (List.mem_reverse.1 k)).1
    refine ih (o ++ [x]) (st0 ++ (kdF ts x).reverse) c (by rw [eo]; omega) (fun e => e5 (by simpa using (List.append_eq_nil_iff.1 e).2)) hc hsub2 ?_
    ·rw [List.reverse_append, List.reverse_reverse, List.flatMap_append, kd]
     exact hsum2
end
section
variable {ts : Array Value} {h : Int}
theorem uI_ok (hf : FIn ts) (hh : h ∈ lvT ts) (hne : kdF ts h ≠ []) : Good Tryd.prog (freshA (UNL ts h).length (u32s (UNL ts h)) 30) 0 (uI_F ts h (kdF ts h).length (u32s (kdF ts h)) (((kdF ts h).length - 1 : Nat) : Int)) (uI_M ts h (kdF ts h).length (u32s (kdF ts h)) (((kdF ts h).length - 1 : Nat) : Int)) := by
 have hU : (UNL ts h).length ≤ 32 := un_32 hf hh
 have hp := List.length_pos_iff.2 hne
 have hkl := kd_len ts h
 have kd := kdF_eq hf hh
 have hsum : [h] ++ (([] : List Int) ++ (kdF ts h).reverse).reverse.flatMap (UNL ts) = UNL ts h := by
  rw [List.nil_append, List.reverse_reverse, kd, unl_cons hf hh]
  rfl
 have hA : ∀ cs, Stk cs (([] : List Int) ++ (kdF ts h).reverse) → Good Tryd.prog (freshA (UNL ts h).length (u32s (UNL ts h)) 30) 0 (uA_F (0 + 1) ts [h].length (u32s [h]) (([] : List Int) ++ (kdF ts h).reverse).length cs) (uA_M (0 + 1) ts [h].length (u32s [h]) (([] : List Int) ++ (kdF ts h).reverse).length cs) := fun cs hc =>
  uA_ok hf hh _ [h] _ cs (Nat.lt_succ_self _) (fun e => hne (by simpa using e)) hc (fun y hy => by
   rw [List.nil_append] at hy
   have hy := List.mem_reverse.1 hy
   rw [kd] at hy
   exact (kids_memL.1 hy).1) hsum
 have hi : (kdF ts h).length - 1 < (kdF ts h).length := by omega
 have hk := u32s_at hi
 have hstk : Stk #[Value.int .u32 ((kdF ts h).getD ((kdF ts h).length - 1) 0)] [(kdF ts h).getD ((kdF ts h).length - 1) 0] := ⟨Nat.le_refl _, fun i hi => by
  obtain rfl : i = 0 := by simpa using hi
  rfl⟩
 have hlast : (kdF ts h).drop ((kdF ts h).length - 1) = [(kdF ts h).getD ((kdF ts h).length - 1) 0] := by
  rw [List.drop_eq_getElem_cons hi, List.drop_eq_nil_of_le (by omega), List.getD_eq_getElem?_getD, List.getElem?_eq_getElem hi]
  rfl
 refine past_vc EUn_ok 1000 (unI ts h _ _ _ (UNL ts h).length (u32s (UNL ts h))
  (fun q os n c => q = 1 ∧ os = u32s [h] ∧ n = 1 ∧ (kdF ts h).length = 1 ∧ c = #[Value.int .u32 ((kdF ts h).getD ((kdF ts h).length - 1) 0)])
  (fun i q os n c => i = (((kdF ts h).length - 2 : Nat) : Int) ∧ q = 1 ∧ os = u32s [h] ∧ n = 1 ∧ 2 ≤ (kdF ts h).length ∧ c = #[Value.int .u32 ((kdF ts h).getD ((kdF ts h).length - 1) 0)])) ?_ (fun _ _ h => h)
  (fun fs m hg => uAB_good (fun q os n c ⟨e1, e2, e3, e4, e5⟩ => ?_) (fun i q os n c ⟨e0, e1, e2, e3, e4, e5⟩ => ?_) hg)
 ·have e : ari .sub .i64 (((kdF ts h).length - 1 : Nat) : Int) 1 = (((kdF ts h).length - 1 : Nat) : Int) - 1 := i64_sub1 ⟨by omega, by omega⟩
  have g1 : IsInt .u32 (u32s (kdF ts h)) ((kdF ts h).length - 1) := isI_of hk
  have g2 : intAt (u32s (kdF ts h)) ((kdF ts h).length - 1) = (kdF ts h).getD ((kdF ts h).length - 1) 0 := intAt_of hk
  have y0 : 0 ≤ (((kdF ts h).length - 1 : Nat) : Int) := by omega
  have y1 : (((kdF ts h).length - 1 : Nat) : Int) < ((kdF ts h).length : Int) := by omega
  have t1 : TodoOk (ren 0 [(1, 1), (2, 2), (4, 4), (5, 5), (6, 15), (7, 7), (61, 9), (62, 10), (63, 11), (65, 13), (20, 12)]) uB_d1 uI_d1 := TodoOk.rf2 rfl (by kernel_rfl)
  have t2 : TodoOk (ren 0 [(1, 1), (2, 2), (4, 4), (5, 5), (6, 15), (7, 7), (61, 9), (62, 10), (63, 11), (65, 13), (20, 12)]) uA_d1 uA_d1 := TodoOk.rf rfl (by kernel_rfl)
  have t3 : TodoOk (ren 0 [(1, 1), (2, 2), (3, 9), (4, 4), (5, 5), (6, 15), (7, 7), (20, 12)]) uA_d1 uA_d1 := TodoOk.rf rfl (by kernel_rfl)
  simp only [e, g1, g2, y0, y1, t1, t2, t3, u32s_one, EqL_self, and_true, true_and, uA_d0_ok, uB_d0_ok, q7, cNt]
  refine ⟨fun k => ?_, fun k => ?_⟩
  ·have := of_decide_eq_true k
   exact ⟨by omega, by omega⟩
  ·have := of_decide_eq_false k
   omega
 ·rw [e1, e2, e3, e5]
  have hx : (kdF ts h).reverse = [(kdF ts h).getD ((kdF ts h).length - 1) 0] := by
   have := hlast
   rw [e4] at this ⊢
   have hd : (kdF ts h).drop (1 - 1) = kdF ts h := rfl
   rw [hd] at this
   rw [this]
   rfl
  have := hA _ (by rw [List.nil_append, hx]; exact hstk)
  rw [List.nil_append, hx] at this
  exact this
 ·rw [e0, e1, e2, e3, e5]
  have hd : (kdF ts h).length - 2 + 1 = (kdF ts h).length - 1 := by omega
  have := uB_ok (ts := ts) (U := UNL ts h) (j := 0) (o := [h]) (st0 := []) (K := kdF ts h) (by omega) hkl (Nat.zero_le _) hA ((kdF ts h).length - 2) #[Value.int .u32 ((kdF ts h).getD ((kdF ts h).length - 1) 0)] (by omega) (by rw [hd, hlast]; exact hstk)
  rw [hd, hlast] at this
  exact this
theorem fnUn : E0.fn 41 = some Tryd.f41 := by kernel_rfl
theorem bodyUn : Tryd.f41.body = some (Tryd.f41.body.getD .skip) := by kernel_rfl
theorem under_con (h : Int) (m : SMem) : Con E0 41 [tbS ts, u32 h] m (.need [FIn ts, inH h] (rowT (unT ts h) 30 m)) := by
 refine Con.asked fun hq => ?_
 have hf : FIn ts := hq _ (by simp)
 have hb := hf.ok
 have hh : inH h := hq _ (by simp)
 have hh' : 0 ≤ h ∧ h < 4294967296 := hh
 have hs := hb.sz
 have h64 : (64 : Nat) ≤ 448 := by decide
 have hbk : BkOk (bkB ts) := hb.bk
 refine Con.two (fun hz => ?_) (fun hz => ?_)
 ·have he : unT ts h = [] := List.eq_nil_of_length_eq_zero (of_decide_eq_true hz)
  have hg : goodB (bkB ts) h = false := by
   cases c : goodB (bkB ts) h with
   | false => rfl
   | true =>
    exfalso
    have c' : gdF ts h = true := c
    unfold unT at he
    rw [if_pos c', un_cons hf.fo ((lv_mem hb).2 c')] at he
    cases he
  refine (show Con E0 41 [tbS ts, u32 h] m (needs [] _) from Con.pure E0_ok fnUn bodyUn (by kernel_rfl) (by kernel_rfl) fun hq => ?_)
  refine (run_vc EU0_ok 1000 (unN ts h 0 #[] (fun i => False)) ?_ (fun s m h => h) fun fs m hm => uI_good (A := nilK) (fun i e => e.elim) hm).mono ?_
  ·simp only [bk_f, hg, hs, h64, hbk, hh', Bool.not_false, q6]
  ·intro s m' hs
   unfold nilK at hs
   split at hs
   ·rfl
   ·exact hs.elim
 ·have hne : unT ts h ≠ [] := fun e => by
   have := of_decide_eq_false hz
   rw [e] at this
   exact this rfl
  have hg' : gdF ts h = true := by
   cases c : gdF ts h with
   | true => rfl
   | false => exact absurd (by unfold unT; rw [c]; rfl) hne
  have hg : goodB (bkB ts) h = true := hg'
  have hl := (lv_mem hb).2 hg'
  have eu : unT ts h = UNL ts h := by unfold unT; rw [if_pos hg']
  have kd := kdF_eq hf hl
  have hkl := kd_len ts h
  rw [eu]
  refine (show Con E0 41 [tbS ts, u32 h] m (needs [] _) from Con.fresh E0_ok fnUn bodyUn (by kernel_rfl) rfl fun _ => ?_)
  refine Good.retX ((run_vc EU0_ok 1000 (unF0 ts h (kdF ts h).length (u32s (kdF ts h)) (UNL ts h).length (u32s (UNL ts h)) (fun i => i = (((kdF ts h).length - 1 : Nat) : Int) ∧ kdF ts h ≠ [])) ?_ (fun s m h => h) fun fs m hm => uI_good (A := freshA (UNL ts h).length (u32s (UNL ts h)) 30) (fun i ⟨e, e2⟩ => by rw [e]; exact uI_ok hf hl e2) hm).mono fun s m h => ?_)
  ·simp only [bk_f, hg, hs, h64, hb, hbk, hh', Bool.not_true, q6]
   constructor
   ·intro k
    have e0 := List.eq_nil_of_length_eq_zero (of_decide_eq_true k)
    have e1 : UNL ts h = [h] := by rw [unl_cons hf hl, ← kd, e0]; rfl
    rw [e1]
    exact ⟨rfl, rfl⟩
   ·intro k
    have hne : kdF ts h ≠ [] := fun e => of_decide_eq_false k (by rw [e]; rfl)
    have hp := List.length_pos_iff.2 hne
    have e2 : ari .sub .i64 ((kdF ts h).length : Int) 1 = (((kdF ts h).length - 1 : Nat) : Int) := by rw [i64_sub1 ⟨by omega, by omega⟩]; omega
    have d : decide ((((kdF ts h).length - 1 : Nat) : Int) ≥ 0) = true := decide_eq_true (by omega)
    simp only [e2, d, EqL_self, uA_d1_ok0, uB_d0_ok, uI_d1_ok0, q6]
    exact ⟨hne, TodoOk.rf rfl (by kernel_rfl)⟩
  ·unfold freshA at h
   split at h
   ·exact ⟨_, h⟩
   ·exact h.elim
end
section
variable {L L' : List Int} {up up' : Int → Int}
theorem fo_sub (h : FoOk L up) (hn : L'.Nodup) (hs : ∀ x ∈ L', x ∈ L) (hu : ∀ x ∈ L', up' x = up x ∨ up' x = 0) (hc : ∀ x ∈ L', up' x = 0 ∨ up' x ∈ L') : FoOk L' up' ∧ ∀ x ∈ L', depL up' x ≤ depL up x := by
 have key : ∀ (n : Nat) (x : Int), x = 0 ∨ x ∈ L' → (chF up' n x).length ≤ (chF up n x).length := by
  intro n
  induction n with
  | zero => intro x _; exact Nat.le_refl _
  | succ n ih =>
   intro x hx
   rcases hx with rfl | hx
   ·rw [chF_zero]; exact Nat.zero_le _
   ·have h0 := h.nz x (hs x hx)
    rw [chF_succ h0, chF_succ h0, List.length_cons, List.length_cons]
    rcases hu x hx with e | e
    ·have := ih (up' x) (hc x hx)
     rw [e] at this ⊢
     omega
    ·rw [e, chF_zero]
     exact Nat.succ_le_succ (Nat.zero_le _)
 exact ⟨⟨hn, fun x hx => h.nz x (hs x hx), hc, fun x hx => Nat.le_trans (key 14 x (.inr hx)) (h.dp x (hs x hx))⟩, fun x hx => key 14 x (.inr hx)⟩
theorem fo_same (h : FoOk L up) (hu : ∀ x ∈ L, up' x = up x) : FoOk L up' ∧ ∀ x, x = 0 ∨ x ∈ L → chL up' x = chL up x := by
 obtain ⟨h', _⟩ := fo_sub (L' := L) h h.nd (fun _ hx => hx) (fun x hx => .inl (hu x hx)) (fun x hx => by rw [hu x hx]; exact h.cl x hx)
 refine ⟨h', ?_⟩
 refine up_ind h (by rw [ch_zero, ch_zero]) fun x hx ih => ?_
 rw [ch_cons h' hx, ch_cons h hx, hu x hx, ih]
theorem cut_ch (h : FoOk L up) {c : Int} (hc : c ∈ L) (h0 : up' c = 0) (hu : ∀ x ∈ L, x ≠ c → up' x = up x) : FoOk L up' ∧ (∀ x ∈ L, depL up' x ≤ depL up x) ∧ (∀ x, x = 0 ∨ x ∈ L → (c ∈ chL up' x ↔ c ∈ chL up x)) ∧ (∀ x, x = 0 ∨ x ∈ L → c ∈ chL up x → rtL up' x = c) := by
 obtain ⟨h', hd⟩ := fo_sub (L' := L) (up' := up') h h.nd (fun _ hx => hx) (fun x hx => by
  by_cases e : x = c
  ·rw [e]; exact .inr h0
  ·exact .inl (hu x hx e)) (fun x hx => by
  by_cases e : x = c
  ·rw [e]; exact .inl h0
  ·rw [hu x hx e]; exact h.cl x hx)
 refine ⟨h', hd, ?_, ?_⟩
 ·refine up_ind h (by rw [ch_zero, ch_zero]) fun x hx ih => ?_
  rw [ch_cons h' hx, ch_cons h hx, List.mem_cons, List.mem_cons]
  by_cases e : x = c
  ·simp [e]
  ·rw [hu x hx e, ih]
 ·refine up_ind h (fun k => by rw [ch_zero] at k; cases k) fun x hx ih k => ?_
  rw [rt_cons h' hx]
  by_cases e : x = c
  ·rw [e, if_pos h0]
  ·rw [hu x hx e]
   rw [ch_cons h hx, List.mem_cons] at k
   have k := k.resolve_left fun k => e k.symm
   have hz : up x ≠ 0 := fun z => by rw [z, ch_zero] at k; cases k
   rw [if_neg hz]
   exact ih k
theorem graft_ch (h : FoOk L up) {c u : Int} (hc : c ∈ L) (hr : up c = 0) (hu : u ∈ L) (hn : c ∉ chL up u) (h0 : up' c = u) (hs : ∀ x ∈ L, x ≠ c → up' x = up x) (hdd : ∀ x ∈ L, c ∈ chL up x → depL up x + depL up u ≤ 13) : FoOk L up' ∧ (∀ x, x = 0 ∨ x ∈ L → c ∉ chL up x → chL up' x = chL up x) ∧ (∀ x, x = 0 ∨ x ∈ L → c ∈ chL up x → chL up' x = chL up x ++ chL up u) := by
 have same : ∀ x, x = 0 ∨ x ∈ L → c ∉ chL up x → ∀ n, depL up x ≤ n → chF up' n x = chL up x := by
  refine up_ind h (fun _ n _ => by rw [ch_zero, chF_zero]) fun x hx ih hcx n hle => ?_
  have hd := dep_cons h hx
  rw [ch_cons h hx] at hcx ⊢
  rw [List.mem_cons, not_or] at hcx
  obtain ⟨m, rfl⟩ : ∃ m, n = m + 1 := ⟨n - 1, by omega⟩
  rw [chF_succ (h.nz x hx), hs x hx (fun e => hcx.1 e.symm), ih hcx.2 m (by omega)]
 have under : ∀ x, x = 0 ∨ x ∈ L → c ∈ chL up x → ∀ n, depL up x + depL up u ≤ n → chF up' n x = chL up x ++ chL up u := by
  refine up_ind h (fun k => by rw [ch_zero] at k; cases k) fun x hx ih hcx n hle => ?_
  have hd := dep_cons h hx
  rw [ch_cons h hx] at hcx ⊢
  obtain ⟨m, rfl⟩ : ∃ m, n = m + 1 := ⟨n - 1, by omega⟩
  rw [chF_succ (h.nz x hx)]
  by_cases e : x = c
  ·subst e
   rw [h0, hr, ch_zero]
   rw [hr, dep_zero] at hd
   rw [same u (.inr hu) hn m (by omega)]
   rfl
  ·have k := (List.mem_cons.1 hcx).resolve_left fun k => e k.symm
   rw [hs x hx e, ih k m (by omega)]
   rfl
 have dle : ∀ x ∈ L, depL up x ≤ 13 := fun x hx => (dep_le h hx).2
 refine ⟨⟨h.nd, h.nz, fun x hx => ?_, fun x hx => ?_⟩, fun x hx k => ?_, fun x hx k => ?_⟩
 ·by_cases e : x = c
  ·rw [e, h0]; exact .inr hu
  ·rw [hs x hx e]; exact h.cl x hx
 ·by_cases k : c ∈ chL up x
  ·rw [under x (.inr hx) k 14 (by have := hdd x hx k; omega), List.length_append]
   exact hdd x hx k
  ·rw [same x (.inr hx) k 14 (by have := dle x hx; omega)]
   exact dle x hx
 ·rcases hx with rfl | hx
  ·rw [ch_zero, ch_zero]
  ·exact same x (.inr hx) k 14 (by have := dle x hx; omega)
 ·rcases hx with rfl | hx
  ·rw [ch_zero] at k; cases k
  ·exact under x (.inr hx) k 14 (by have := hdd x hx k; omega)
theorem graft_rt (h : FoOk L up) (h' : FoOk L up') {c u : Int} (hc : c ∈ L) (hu : u ∈ L) (hn : c ∉ chL up u) (h0 : up' c = u) (hs : ∀ x ∈ L, x ≠ c → up' x = up x) : rtL up' c = rtL up u := by
 have key : ∀ x, x = 0 ∨ x ∈ L → c ∉ chL up x → rtL up' x = rtL up x := by
  refine up_ind h (fun _ => by rw [rt_zero, rt_zero]) fun x hx ih hcx => ?_
  rw [ch_cons h hx, List.mem_cons, not_or] at hcx
  rw [rt_cons h' hx, rt_cons h hx, hs x hx (fun e => hcx.1 e.symm)]
  split
  ·rfl
  ·exact ih hcx.2
 rw [rt_cons h' hc, h0, if_neg (h.nz u hu)]
 exact key u (.inr hu) hn
theorem new_ch (h : FoOk L up) {c u : Int} (hn : L'.Nodup) (hm : ∀ x, x ∈ L' ↔ x ∈ L ∨ x = c) (hc : c ∉ L) (hz : c ≠ 0) (hu : u = 0 ∨ u ∈ L) (h0 : up' c = u) (hs : ∀ x ∈ L, up' x = up x) (hd : depL up u ≤ 12) : FoOk L' up' ∧ (∀ x, x = 0 ∨ x ∈ L → chL up' x = chL up x) ∧ depL up' c = depL up u + 1 := by
 have same : ∀ x, x = 0 ∨ x ∈ L → ∀ n, depL up x ≤ n → chF up' n x = chL up x := by
  refine up_ind h (fun n _ => by rw [ch_zero, chF_zero]) fun x hx ih n hle => ?_
  have hd := dep_cons h hx
  rw [ch_cons h hx]
  obtain ⟨m, rfl⟩ : ∃ m, n = m + 1 := ⟨n - 1, by omega⟩
  rw [chF_succ (h.nz x hx), hs x hx, ih m (by omega)]
 have dle : ∀ x, x = 0 ∨ x ∈ L → depL up x ≤ 13 := fun x hx => by
  rcases hx with rfl | hx
  ·rw [dep_zero]; omega
  ·exact (dep_le h hx).2
 have ec : ∀ n, depL up u ≤ n → chF up' (n + 1) c = c :: chL up u := fun n hn => by
  rw [chF_succ hz, h0, same u hu n hn]
 refine ⟨⟨hn, fun x hx => ?_, fun x hx => ?_, fun x hx => ?_⟩, fun x hx => same x hx 14 (by have := dle x hx; omega), ?_⟩
 ·rcases (hm x).1 hx with k | k
  ·exact h.nz x k
  ·rw [k]; exact hz
 ·rcases (hm x).1 hx with k | k
  ·rw [hs x k]
   exact (h.cl x k).imp id fun k => (hm _).2 (.inl k)
  ·rw [k, h0]
   exact hu.imp id fun k => (hm _).2 (.inl k)
 ·rcases (hm x).1 hx with k | k
  ·rw [same x (.inr k) 14 (by have := dle x (.inr k); omega)]
   exact dle x (.inr k)
  ·rw [k, ec 13 (by omega), List.length_cons]
   have : (chL up u).length = depL up u := rfl
   omega
 ·show (chF up' 14 c).length = _
  rw [ec 13 (by omega), List.length_cons]
  rfl
end
section
variable {ts : Array Value} {h : Int}
theorem sl_ne (hb : TbOk ts) {x y : Int} (hx : gdF ts x = true) (hy : gdF ts y = true) (hne : x ≠ y) : sl x ≠ sl y := fun e => by
 have h1 := (good_f hb hx).2.2.2.2.1
 have h2 := (good_f hb hy).2.2.2.2.1
 rw [e] at h1
 exact hne (h1.trans h2.symm)
theorem at_ceF (us : Array Value) (x : Int) (k : Nat) : ceF us x k = intAt us (64 + sl x * 12 + (4 + k)) := by unfold ceF pl; rw [Nat.add_assoc]
theorem rg_eq {us : Array Value} {x : Int} (hc : ∀ j, j < 12 → us[64 + sl x * 12 + j]? = ts[64 + sl x * 12 + j]?) : upR us x = upR ts x ∧ quF us x = quF ts x ∧ ∀ k, k < 8 → ceF us x k = ceF ts x k := by
 refine ⟨?_, ?_, fun k hk => ?_⟩
 ·have := hc 0 (by decide)
  unfold upR intAt pl
  rw [Nat.add_zero] at this
  rw [this]
 ·have := hc 1 (by decide)
  unfold quF intAt pl
  rw [this]
 ·have := hc (4 + k) (by omega)
  rw [at_ceF, at_ceF]
  unfold intAt
  rw [this]
theorem rg_put (hb : TbOk ts) {us : Array Value} {q : Nat} {u n : Int} {c : Nat → Int} (hs : us.size = 448) (hbk : BkOk (bkB us)) (hq : q < 32) (hu : inH u) (hn : 0 ≤ n ∧ n ≤ 64) (hcc : ∀ k, k < 8 → inH (c k)) (hc : ∀ i j, i < 32 → j < 12 → us[64 + i * 12 + j]? = if i = q then (rgA u n 0 c)[j]? else ts[64 + i * 12 + j]?) : TbOk us ∧ (∀ x, sl x = q → upR us x = u ∧ quF us x = n ∧ ∀ k, k < 8 → ceF us x k = c k) ∧ (∀ x, sl x < 32 → sl x ≠ q → upR us x = upR ts x ∧ quF us x = quF ts x ∧ ∀ k, k < 8 → ceF us x k = ceF ts x k) := by
 have key := rg_new (us := us) (p := 64 + q * 12) (u := u) (q := n) (c := c) (fun k hk => by rw [hc q k hq hk, if_pos rfl]) hu hn hcc
 refine ⟨⟨hs, hbk, fun i hi => ?_⟩, fun x hx => ?_, fun x hx hne => rg_eq fun j hj => by rw [hc _ j hx hj, if_neg hne]⟩
 ·by_cases e : i = q
  ·rw [e]; exact key.1
  ·exact rg_same (hb.rg i hi) fun k hk => by rw [hc i k hi hk, if_neg e]
 ·unfold upR quF ceF pl
  rw [hx]
  exact key.2
theorem dr_at (hb : TbOk ts) (hg : gdF ts h = true) : bkB (drT ts h) = voidB (bkB ts) h ∧ ∀ i j, i < 32 → j < 12 → (drT ts h)[64 + i * 12 + j]? = if i = sl h then (rgA 0 0 0 fun _ => 0)[j]? else ts[64 + i * 12 + j]? := by
 have hv := (void_bk hb.bk h).sz
 obtain ⟨p1, p2, p3⟩ := put_bk (bs := voidB (bkB ts) h) hb.sz hv
 obtain ⟨q1, q2, q3⟩ := put_rg (ts := putAt ts 0 (voidB (bkB ts) h).toList) (l := z12) p1 (good_f hb hg).2.2.1 rfl
 refine ⟨q2.trans p2, fun i j hi hj => ?_⟩
 have := q3 i j hi hj
 rw [show drT ts h = putAt (putAt ts 0 (voidB (bkB ts) h).toList) (64 + sl h * 12) z12 from rfl, this]
 split
 ·unfold z12; rw [Array.getElem?_toList]
 ·exact p3 _ (by omega)
theorem drop_f (hb : TbOk ts) (hg : gdF ts h = true) : TbOk (drT ts h) ∧ bkB (drT ts h) = voidB (bkB ts) h ∧ (∀ x, gdF (drT ts h) x = (gdF ts x && !decide (x = h))) ∧ (∀ x, gdF ts x = true → x ≠ h → upR (drT ts h) x = upR ts x ∧ quF (drT ts h) x = quF ts x ∧ ∀ k, k < 8 → ceF (drT ts h) x k = ceF ts x k) := by
 obtain ⟨h1, h2⟩ := dr_at hb hg
 obtain ⟨r1, r2, r3⟩ := rg_put hb (u := 0) (n := 0) (c := fun _ => 0) (dr_size hb hg) (by rw [h1]; exact void_bk hb.bk h) (good_f hb hg).2.2.1 ⟨by decide, by decide⟩ ⟨by decide, by decide⟩ (fun _ _ => ⟨by decide, by decide⟩) h2
 refine ⟨r1, h1, fun x => ?_, fun x hx hne => r3 x (good_f hb hx).2.2.1 (sl_ne hb hx hg hne)⟩
 unfold gdF
 rw [h1]
 exact void_good hb.bk h x
theorem drop_up (hb : TbOk ts) (hg : gdF ts h = true) {x : Int} (hx : gdF ts x = true) (hne : x ≠ h) : upF (drT ts h) x = if upF ts x = h then 0 else upF ts x := by
 obtain ⟨_, _, r3, r4⟩ := drop_f hb hg
 have h1 := (good_f hb hg).2.2.2.2.2.2
 have e := (r4 x hx hne).1
 have g : gdF (drT ts h) x = true := by rw [r3, hx, decide_eq_false hne]; rfl
 unfold upF
 rw [g, hx, if_pos rfl, if_pos rfl, e, r3]
 cases c : gdF ts (upR ts x) with
 | false =>
  simp only [Bool.false_and, Bool.false_eq_true, if_false]
  rw [if_neg (by omega)]
 | true =>
  by_cases d : upR ts x = h
  ·simp [d]
  ·simp [d]
def rgT (ts : Array Value) (h u q : Int) (c : Nat → Int) : Array Value := putAt ts (pl h) (rgA u q 0 c).toList
theorem rgT_f (hb : TbOk ts) (hg : gdF ts h = true) {u q : Int} {c : Nat → Int} (hu : inH u) (hq : 0 ≤ q ∧ q ≤ 64) (hc : ∀ k, k < 8 → inH (c k)) : TbOk (rgT ts h u q c) ∧ bkB (rgT ts h u q c) = bkB ts ∧ (upR (rgT ts h u q c) h = u ∧ quF (rgT ts h u q c) h = q ∧ ∀ k, k < 8 → ceF (rgT ts h u q c) h k = c k) ∧ (∀ x, gdF ts x = true → x ≠ h → upR (rgT ts h u q c) x = upR ts x ∧ quF (rgT ts h u q c) x = quF ts x ∧ ∀ k, k < 8 → ceF (rgT ts h u q c) x k = ceF ts x k) := by
 obtain ⟨q1, q2, q3⟩ := put_rg (ts := ts) (l := (rgA u q 0 c).toList) hb.sz (good_f hb hg).2.2.1 rfl
 have q2 : bkB (rgT ts h u q c) = bkB ts := q2
 obtain ⟨r1, r2, r3⟩ := rg_put (us := rgT ts h u q c) hb (u := u) (n := q) (c := c) q1 (by rw [q2]; exact hb.bk) (good_f hb hg).2.2.1 hu hq hc fun i j hi hj => by
  have := q3 i j hi hj
  rw [show rgT ts h u q c = putAt ts (64 + sl h * 12) (rgA u q 0 c).toList from rfl, this]
  split
  ·rw [Array.getElem?_toList]
  ·rfl
 exact ⟨r1, q2, r2 h rfl, fun x hx hne => r3 x (good_f hb hx).2.2.1 (sl_ne hb hx hg hne)⟩
theorem gd_bk {us : Array Value} (e : bkB us = bkB ts) (x : Int) : gdF us x = gdF ts x := by unfold gdF; rw [e]
theorem lv_bk {us : Array Value} (e : bkB us = bkB ts) : lvT us = lvT ts := by unfold lvT; rw [e]
theorem up_bk {us : Array Value} (e : bkB us = bkB ts) {x : Int} (hx : upR us x = upR ts x) : upF us x = upF ts x := by unfold upF; rw [gd_bk e, gd_bk e, hx]
theorem rg_in (hb : TbOk ts) (hg : gdF ts h = true) : inH (upR ts h) ∧ (0 ≤ quF ts h ∧ quF ts h ≤ 64) ∧ ∀ k, k < 8 → inH (ceF ts h k) := by
 have r := hb.rg _ (good_f hb hg).2.2.1
 exact ⟨r.hu, r.hq, r.hc⟩
theorem set_f (hb : TbOk ts) (hg : gdF ts h = true) {rr : Array Value} (hr : RgOk rr 0) : TbOk (setT ts h rr) ∧ bkB (setT ts h rr) = bkB ts ∧ (∀ x, gdF ts x = true → upR (setT ts h rr) x = upR ts x) ∧ (quF (setT ts h rr) h = intAt rr 1 ∧ ∀ k, k < 8 → ceF (setT ts h rr) h k = intAt rr (4 + k)) ∧ (∀ x, gdF ts x = true → x ≠ h → quF (setT ts h rr) x = quF ts x ∧ ∀ k, k < 8 → ceF (setT ts h rr) x k = ceF ts x k) := by
 have e : setT ts h rr = rgT ts h (upR ts h) (intAt rr 1) (fun k => intAt rr (4 + k)) := by unfold setT; rw [if_pos hg]; rfl
 obtain ⟨r1, r2, ⟨r3, r4, r5⟩, r6⟩ := rgT_f (u := upR ts h) (q := intAt rr 1) (c := fun k => intAt rr (4 + k)) hb hg (rg_in hb hg).1 hr.hq (fun k hk => by have := hr.hc k hk; rw [Nat.zero_add] at this; exact this)
 rw [e]
 exact ⟨r1, r2, fun x hx => if c : x = h then by rw [c]; exact r3 else (r6 x hx c).1, ⟨r4, r5⟩, fun x hx hne => (r6 x hx hne).2⟩
theorem raS_f (hb : TbOk ts) (hg : gdF ts h = true) {u : Int} (hu : inH u) : TbOk (raS ts h u) ∧ bkB (raS ts h u) = bkB ts ∧ upR (raS ts h u) h = u ∧ (∀ x, gdF ts x = true → x ≠ h → upR (raS ts h u) x = upR ts x) ∧ (∀ x, quF (raS ts h u) x = quF ts x ∧ ∀ k, k < 8 → ceF (raS ts h u) x k = ceF ts x k) := by
 have hs := hb.sz
 have h3 := (good_f hb hg).2.2.1
 have hp : pl h < 448 := by unfold pl; omega
 have sz : (raS ts h u).size = 448 := by unfold raS; rw [set_size]; exact hs
 have out : ∀ k, k ≠ pl h → (raS ts h u)[k]? = ts[k]? := fun k hk => by unfold raS; exact set_out hk
 have hin : (raS ts h u)[pl h]? = some (.int .u32 u) := by unfold raS; exact set_in (by omega)
 have bk : bkB (raS ts h u) = bkB ts := by
  apply Array.ext_getElem?
  intro j
  unfold bkB
  by_cases c : j < 64
  ·rw [ext_get (by omega) (by omega), ext_get (by omega) (by omega)]
   exact out _ (by unfold pl; omega)
  ·rw [Array.getElem?_eq_none (by rw [ext_size (by omega)]; omega), Array.getElem?_eq_none (by rw [ext_size (by omega)]; omega)]
 have rest : ∀ x, quF (raS ts h u) x = quF ts x ∧ ∀ k, k < 8 → ceF (raS ts h u) x k = ceF ts x k := fun x => by
  refine ⟨?_, fun k hk => ?_⟩
  ·unfold quF intAt
   rw [out _ (by unfold pl; omega)]
  ·unfold ceF intAt
   rw [out _ (by unfold pl; omega)]
 refine ⟨⟨sz, by rw [bk]; exact hb.bk, fun i hi => ?_⟩, bk, intAt_of hin, fun x hx hne => ?_, rest⟩
 ·by_cases e : i = sl h
  ·have r := hb.rg _ h3
   have ep : 64 + sl h * 12 = pl h := rfl
   rw [e]
   have o : ∀ j, j ≠ 0 → (raS ts h u)[64 + sl h * 12 + j]? = ts[64 + sl h * 12 + j]? := fun j hj => out _ (by rw [← ep]; omega)
   have oi : ∀ j, j ≠ 0 → intAt (raS ts h u) (64 + sl h * 12 + j) = intAt ts (64 + sl h * 12 + j) := fun j hj => by unfold intAt; rw [o j hj]
   have ok : ∀ j, j ≠ 0 → ∀ k, IsInt k ts (64 + sl h * 12 + j) → IsInt k (raS ts h u) (64 + sl h * 12 + j) := fun j hj k hk => by
    unfold IsInt at *
    rw [oi j hj, o j hj]; exact hk
   refine ⟨isI_of hin, ok 1 (by decide) _ r.q, ?_, ok 3 (by decide) _ r.l, fun k hk => ?_, by rw [ep, intAt_of hin]; exact hu, by rw [oi 1 (by decide)]; exact r.hq, by rw [oi 3 (by decide)]; exact r.hl, fun k hk => ?_⟩
   ·have := r.r
    unfold IsNil at *
    rw [o 2 (by decide)]; exact this
   ·have := r.c k hk
    rw [Nat.add_assoc] at *
    exact ok (4 + k) (by omega) _ this
   ·have := r.hc k hk
    rw [Nat.add_assoc] at *
    rw [oi (4 + k) (by omega)]; exact this
  ·exact rg_same (hb.rg i hi) fun k hk => out _ (by unfold pl; omega)
 ·have := sl_ne hb hx hg hne
  unfold upR intAt
  rw [out _ (by unfold pl; omega)]
theorem nw_at (hb : TbOk ts) {u q : Int} : bkB (nwT ts u q) = issueB (bkB ts) ∧ ∀ i j, i < 32 → j < 12 → (nwT ts u q)[64 + i * 12 + j]? = if i = sl (issueI (bkB ts)) then (rgA u q 0 fun _ => 0)[j]? else ts[64 + i * 12 + j]? := by
 have hv := (issue_bk hb.bk).sz
 obtain ⟨p1, p2, p3⟩ := put_bk (bs := issueB (bkB ts)) hb.sz hv
 obtain ⟨q1, q2, q3⟩ := put_rg (ts := putAt ts 0 (issueB (bkB ts)).toList) (l := (rgA u q 0 fun _ => 0).toList) p1 (iss_f hb).2.2.2 rfl
 refine ⟨q2.trans p2, fun i j hi hj => ?_⟩
 have := q3 i j hi hj
 rw [show nwT ts u q = putAt (putAt ts 0 (issueB (bkB ts)).toList) (64 + sl (issueI (bkB ts)) * 12) (rgA u q 0 fun _ => 0).toList from rfl, this]
 split
 ·rw [Array.getElem?_toList]
 ·exact p3 _ (by omega)
theorem iss_new (hb : TbOk ts) (ho : issueOk (bkB ts) = true) : gdF ts (issueI (bkB ts)) = false ∧ issueI (bkB ts) ≠ 0 ∧ ∀ x, gdF ts x = true → sl x ≠ sl (issueI (bkB ts)) := by
 rcases issue_cases (bs := bkB ts) with ⟨_, _, _, e⟩ | ⟨i, h1, h2, e1, e2, e3, _⟩
 ·rw [ho] at e; cases e
 ·have hr := hb.bk.ra i h1
  have es : sl (issueI (bkB ts)) = i := by rw [e2]; exact slotI_name h1 hr
  have hk : ∀ x, gdF ts x = true → sl x ≠ sl (issueI (bkB ts)) := fun x hx e => by
   have := (good_f hb hx).2.2.2.1
   rw [e, es, h2] at this
   exact absurd this (by decide)
  refine ⟨?_, by rw [e2]; unfold nameI; omega, hk⟩
  cases c : gdF ts (issueI (bkB ts)) with
  | false => rfl
  | true => exact absurd rfl (hk _ c)
theorem nw_f (hb : TbOk ts) (ho : issueOk (bkB ts) = true) {u q : Int} (hu : inH u) (hq : 0 ≤ q ∧ q ≤ 64) : TbOk (nwT ts u q) ∧ bkB (nwT ts u q) = issueB (bkB ts) ∧ (∀ x, gdF (nwT ts u q) x = (gdF ts x || decide (x = issueI (bkB ts)))) ∧ (upR (nwT ts u q) (issueI (bkB ts)) = u ∧ quF (nwT ts u q) (issueI (bkB ts)) = q ∧ ∀ k, k < 8 → ceF (nwT ts u q) (issueI (bkB ts)) k = 0) ∧ (∀ x, gdF ts x = true → upR (nwT ts u q) x = upR ts x ∧ quF (nwT ts u q) x = quF ts x ∧ ∀ k, k < 8 → ceF (nwT ts u q) x k = ceF ts x k) := by
 obtain ⟨h1, h2⟩ := nw_at hb (u := u) (q := q)
 obtain ⟨r1, r2, r3⟩ := rg_put hb (u := u) (n := q) (c := fun _ => 0) (nw_size hb) (by rw [h1]; exact issue_bk hb.bk) (iss_f hb).2.2.2 hu hq (fun _ _ => ⟨by decide, by decide⟩) h2
 refine ⟨r1, h1, fun x => ?_, r2 _ rfl, fun x hx => r3 x (good_f hb hx).2.2.1 ((iss_new hb ho).2.2 x hx)⟩
 unfold gdF
 rw [h1, issue_good hb.bk x, ho, Bool.true_and]
end
set_option linter.unusedVariables false
noncomputable def lsA (a0 a1 a3 c0 c1 c2 c3 c4 c5 c6 c7 : Int) : Array Value := #[.int .u32 a0, .int .i64 a1, .slice none 0 0, .int .i64 a3, .int .u32 c0, .int .u32 c1, .int .u32 c2, .int .u32 c3, .int .u32 c4, .int .u32 c5, .int .u32 c6, .int .u32 c7]
noncomputable def conT3 (g : FuncId) (l : List SV) (m : SMem) : Option Tree := match g, l with
 | 41, [.s (.agg (.op ts)), .s (.c (.f (.int .u32 h)))] => some (.need [FIn ts, inH h.den] (rowT (unT ts h.den) 30 m))
 | 26, [.s (.agg (.op ts)), .s (.c (.f (.int .u32 h))), .s (.agg (.ls [.f (.int .u32 a0), .f (.int .i64 a1), .f (.lit (.slice none 0 0)), .f (.int .i64 a3), .f (.int .u32 c0), .f (.int .u32 c1), .f (.int .u32 c2), .f (.int .u32 c3), .f (.int .u32 c4), .f (.int .u32 c5), .f (.int .u32 c6), .f (.int .u32 c7)]))] => some (.need [TbOk ts, inH h.den, RgOk (lsA a0.den a1.den a3.den c0.den c1.den c2.den c3.den c4.den c5.den c6.den c7.den) 0] (.ret (rgS (setT ts h.den (lsA a0.den a1.den a3.den c0.den c1.den c2.den c3.den c4.den c5.den c6.den c7.den)) (getX5 ts h.den)) m))
 | g, l => conT2 g l m
noncomputable def cloS : SV := .s (.c (.fn (.func 44) [] [.ptr 0 (.l 0), .ptr 1 (.l 0)]))
noncomputable def EEm : Env := ⟨Tryd.prog, fnOf, conT3, haltAt [46 * 1000 + 3]⟩
noncomputable def emM (ts : Array Value) (h : Int) : SMem := mkM 2 [(0, ⟨.ls [.f (.int .u32 (.o h))], 30, false⟩), (1, ⟨.op ts, 39, false⟩)]
noncomputable def eL_d0 : List SIt := sekF Tryd.f46 3
noncomputable def eL_F (us : Array Value) (ts : Array Value) (h : Int) (x : Int) (i : Int) (rr : Array Value) (zz : Array Value) (cs : Array Value) : List SFr := [frOf 46 Tryd.f46 [(1, .s (.c (.f (.int .u32 (.o x))))), (2, cloS), (3, ptr 2 (.l 0)), (6, ptr 3 (.l 0)), (7, ptr 4 (.l 0)), (20, agg cs), (21, i64 (.o i))] eL_d0]
noncomputable def eL_M (us : Array Value) (ts : Array Value) (h : Int) (x : Int) (i : Int) (rr : Array Value) (zz : Array Value) (cs : Array Value) : SMem := mkM 5 [(0, ⟨.ls [.f (.int .u32 (.o h))], 30, false⟩), (1, ⟨.op ts, 39, false⟩), (2, ⟨.op us, 39, true⟩), (3, ⟨.op zz, 39, true⟩), (4, ⟨.op rr, 36, true⟩)]
noncomputable def eL_n (us : Array Value) (ts : Array Value) (h : Int) (x : Int) (Q : Int → Array Value → Array Value → Array Value → Prop) (fs : List SFr) (m : SMem) : Prop := (match frNth fs 0 with | some f0 => (match rdI f0 21 with | some i => (match rdP f0 3 with | some p2 => (match rdP f0 6 with | some p3 => (match rdP f0 7 with | some p4 => (match rdA m p3 with | some zz => (match rdA m p4 with | some rr => (match rdV f0 20 with | some cs => Q i rr zz cs ∧ subOk 2 [(2, p2), (3, p3), (4, p4)] (eL_F us ts h x i rr zz cs) (eL_M us ts h x i rr zz cs) fs m | none => False) | none => False) | none => False) | none => False) | none => False) | none => False) | none => False) | none => False)
noncomputable def e0_t (us : Array Value) (ts : Array Value) (h : Int) (x : Int) : Tree := run EEm 1000 2 [callFr 46 Tryd.f46.ntmps [tbS us, u32 x, cloS] (Tryd.f46.body.getD .skip)] (emM ts h)
noncomputable def e0_x (us : Array Value) (ts : Array Value) (h : Int) (x : Int) (QeL : Int → Array Value → Array Value → Array Value → Prop) (fs : List SFr) (m : SMem) : Prop := eL_n us ts h x QeL fs m
noncomputable def e1_t (us : Array Value) (ts : Array Value) (h : Int) (x : Int) (i : Int) (rr : Array Value) (zz : Array Value) (cs : Array Value) : Tree := stepT EEm.go (run EEm 1000) 2 (eL_F us ts h x i rr zz cs) (eL_M us ts h x i rr zz cs)
noncomputable def e1_x (us : Array Value) (ts : Array Value) (h : Int) (x : Int) (i : Int) (rr : Array Value) (zz : Array Value) (cs : Array Value) (QeL : Int → Array Value → Array Value → Array Value → Prop) (fs : List SFr) (m : SMem) : Prop := eL_n us ts h x QeL fs m
theorem eL_d0_ok (r : Nat → Option Nat) : TodoOk r eL_d0 eL_d0 := TodoOk.it (by kernel_rfl)
theorem eL_good {A : SV → SMem → Prop} {us : Array Value} {ts : Array Value} {h : Int} {x : Int} {Q : Int → Array Value → Array Value → Array Value → Prop} {fs : List SFr} {m : SMem} (H : ∀ i rr zz cs, Q i rr zz cs → Good Tryd.prog A 2 (eL_F us ts h x i rr zz cs) (eL_M us ts h x i rr zz cs)) (hb : eL_n us ts h x Q fs m) : Good Tryd.prog A 2 fs m := by
 unfold eL_n at hb
 iterate 8 (split at hb; rotate_left; exact hb.elim)
 exact Good.of_sub hb.2 (H _ _ _ _ hb.1)
theorem e0_go {A : SV → SMem → Prop} {us : Array Value} {ts : Array Value} {h : Int} {x : Int} {QeL : Int → Array Value → Array Value → Array Value → Prop} {fs : List SFr} {m : SMem} (heL : ∀ i' rr' zz' cs', QeL i' rr' zz' cs' → Good Tryd.prog A 2 (eL_F us ts h x i' rr' zz' cs') (eL_M us ts h x i' rr' zz' cs')) (hb : e0_x us ts h x QeL fs m) : Good Tryd.prog A 2 fs m := by
 unfold e0_x at hb
 exact eL_good heL hb
theorem e1_go {A : SV → SMem → Prop} {us : Array Value} {ts : Array Value} {h : Int} {x : Int} {i : Int} {rr : Array Value} {zz : Array Value} {cs : Array Value} {QeL : Int → Array Value → Array Value → Array Value → Prop} {fs : List SFr} {m : SMem} (heL : ∀ i' rr' zz' cs', QeL i' rr' zz' cs' → Good Tryd.prog A 2 (eL_F us ts h x i' rr' zz' cs') (eL_M us ts h x i' rr' zz' cs')) (hb : e1_x us ts h x i rr zz cs QeL fs m) : Good Tryd.prog A 2 fs m := by
 unfold e1_x at hb
 exact eL_good heL hb
set_option maxRecDepth 100000
theorem emF0 (us ts : Array Value) (h x : Int) (o : Array Value) (Q : Int → Array Value → Array Value → Array Value → Prop) : (e0_t us ts h x).vc (retOk 2 [] (tbS o) (emM ts h)) (e0_x us ts h x Q) =
  ((Array.size us = 448 ∧ True) ∧ (TbOk us ∧ (0 ≤ x ∧ x < 4294967296) ∧ True) ∧ (Array.size (getA us x) = 12 ∧ Array.size (getA us x) = 12 ∧ True) ∧ (12 ≤ Array.size (getA us x) ∧ True) ∧ Q (0 : Int) (getA us x) zT (Array.extract (getA us x) 4 (12 : Nat)) ∧ cN ∧ TodoOk (ren 2 [(2, 2), (3, 3), (4, 4)]) eL_d0 eL_d0 ∧ x = x ∧ (0 : Int) = (0 : Int) ∧ Fn.func 44 = Fn.func 44 ∧ Array.extract (getA us x) 4 (12 : Nat) = Array.extract (getA us x) 4 (12 : Nat) ∧ 30 = 30 ∧ h = h ∧ 39 = 39 ∧ ts = ts ∧ 39 = 39 ∧ zT = zT ∧ 39 = 39 ∧ us = us ∧ 36 = 36 ∧ getA us x = getA us x ∧ True) := by kernel_rfl
noncomputable def emF_0 (us : Array Value) (x : Int) (rr : Array Value) : Array Value := setT us x (lsA (intAt rr 0) (intAt rr 1) (intAt rr 3) (intAt rr 4) (intAt rr 5) (intAt rr 6) (intAt rr 7) (intAt rr 8) (intAt rr 9) (intAt rr 10) (intAt rr 11))
theorem emF (us ts : Array Value) (h x i : Int) (rr zz cs o : Array Value) (Q : Int → Array Value → Array Value → Array Value → Prop) : (e1_t us ts h x i rr zz cs).vc (retOk 2 [] (tbS o) (emM ts h)) (e1_x us ts h x i rr zz cs Q) =
  ((decide (i < 8) = true → ((0 ≤ i ∧ i < 8) ∧ IsInt .u32 cs (Int.toNat i * 1) ∧ True) ∧ (((intAt cs (Int.toNat i * 1) != h) == true) = true → (Array.size ts = 448 ∧ True) ∧ (FIn ts ∧ (0 ≤ h ∧ h < 4294967296) ∧ True) ∧ (outF ts (intAt cs (Int.toNat i * 1)) h = true → ((0 ≤ i ∧ i < 8) ∧ True) ∧ (4 + Int.toNat i * 1 < Array.size rr ∧ True) ∧ Q (ari .add .i64 i 1) (Array.setIfInBounds rr (4 + Int.toNat i * 1) (Value.int .u32 0)) zz cs ∧ cN ∧ TodoOk (ren 2 [(2, 2), (3, 3), (4, 4)]) eL_d0 eL_d0 ∧ x = x ∧ ari .add .i64 i 1 = ari .add .i64 i 1 ∧ Fn.func 44 = Fn.func 44 ∧ cs = cs ∧ 30 = 30 ∧ h = h ∧ 39 = 39 ∧ ts = ts ∧ 39 = 39 ∧ zz = zz ∧ 39 = 39 ∧ us = us ∧ 36 = 36 ∧ Array.setIfInBounds rr (4 + Int.toNat i * 1) (Value.int .u32 0) = Array.setIfInBounds rr (4 + Int.toNat i * 1) (Value.int .u32 0) ∧ True) ∧ (outF ts (intAt cs (Int.toNat i * 1)) h = false → Q (ari .add .i64 i 1) rr zz cs ∧ cN ∧ TodoOk (ren 2 [(2, 2), (3, 3), (4, 4)]) eL_d0 eL_d0 ∧ x = x ∧ ari .add .i64 i 1 = ari .add .i64 i 1 ∧ Fn.func 44 = Fn.func 44 ∧ cs = cs ∧ 30 = 30 ∧ h = h ∧ 39 = 39 ∧ ts = ts ∧ 39 = 39 ∧ zz = zz ∧ 39 = 39 ∧ us = us ∧ 36 = 36 ∧ rr = rr ∧ True)) ∧ (((intAt cs (Int.toNat i * 1) != h) == true) = false → Q (ari .add .i64 i 1) rr zz cs ∧ cN ∧ TodoOk (ren 2 [(2, 2), (3, 3), (4, 4)]) eL_d0 eL_d0 ∧ x = x ∧ ari .add .i64 i 1 = ari .add .i64 i 1 ∧ Fn.func 44 = Fn.func 44 ∧ cs = cs ∧ 30 = 30 ∧ h = h ∧ 39 = 39 ∧ ts = ts ∧ 39 = 39 ∧ zz = zz ∧ 39 = 39 ∧ us = us ∧ 36 = 36 ∧ rr = rr ∧ True)) ∧ (decide (i < 8) = false → (Array.size us = 448 ∧ True) ∧ (IsInt .u32 rr 0 ∧ IsInt .i64 rr 1 ∧ rr[(2 : Nat)]? = some (Value.slice none 0 0) ∧ IsInt .i64 rr 3 ∧ IsInt .u32 rr 4 ∧ IsInt .u32 rr 5 ∧ IsInt .u32 rr 6 ∧ IsInt .u32 rr 7 ∧ IsInt .u32 rr 8 ∧ IsInt .u32 rr 9 ∧ IsInt .u32 rr 10 ∧ IsInt .u32 rr 11 ∧ True) ∧ (TbOk us ∧ (0 ≤ x ∧ x < 4294967296) ∧ RgOk (lsA (intAt rr 0) (intAt rr 1) (intAt rr 3) (intAt rr 4) (intAt rr 5) (intAt rr 6) (intAt rr 7) (intAt rr 8) (intAt rr 9) (intAt rr 10) (intAt rr 11)) (0 : Nat) ∧ True) ∧ (Array.size (emF_0 us x rr) = 448 ∧ Array.size (emF_0 us x rr) = 448 ∧ True) ∧ (Array.size (emF_0 us x rr) = 448 ∧ True) ∧ (Array.size (emF_0 us x rr) = 448 ∧ Array.size (emF_0 us x rr) = Array.size zz ∧ True) ∧ (Array.size (emF_0 us x rr) = 448 ∧ True) ∧ o = setT us x (lsA (intAt rr 0) (intAt rr 1) (intAt rr 3) (intAt rr 4) (intAt rr 5) (intAt rr 6) (intAt rr 7) (intAt rr 8) (intAt rr 9) (intAt rr 10) (intAt rr 11)) ∧ 30 = 30 ∧ h = h ∧ 39 = 39 ∧ ts = ts ∧ True)) := by kernel_rfl
set_option linter.unusedVariables false
theorem ls_op {R : Ren} {v : Value} {a0 a1 a3 c0 c1 c2 c3 c4 c5 c6 c7 : SI} (h : (SV.s (.agg (.ls [.f (.int .u32 a0), .f (.int .i64 a1), .f (.lit (.slice none 0 0)), .f (.int .i64 a3), .f (.int .u32 c0), .f (.int .u32 c1), .f (.int .u32 c2), .f (.int .u32 c3), .f (.int .u32 c4), .f (.int .u32 c5), .f (.int .u32 c6), .f (.int .u32 c7)]))).ok R v) : (tbS (lsA a0.den a1.den a3.den c0.den c1.den c2.den c3.den c4.den c5.den c6.den c7.den)).ok R v := by
 obtain ⟨cs, rfl, hl⟩ := h
 have hl : All2 (SC.ok R) _ cs.toList := hl
 have key : cs = lsA a0.den a1.den a3.den c0.den c1.den c2.den c3.den c4.den c5.den c6.den c7.den := by
  apply Array.ext'
  match hc : cs.toList, hl with
 | [v0, v1, v2, v3, v4, v5, v6, v7, v8, v9, v10, v11], ⟨h0, h1, h2, h3, h4, h5, h6, h7, h8, h9, h10, h11, _⟩ =>
  have e0 : v0 = .int .u32 a0.den := h0
  have e1 : v1 = .int .i64 a1.den := h1
  have e2 : v2 = .slice none 0 0 := h2.1
  have e3 : v3 = .int .i64 a3.den := h3
  have e4 : v4 = .int .u32 c0.den := h4
  have e5 : v5 = .int .u32 c1.den := h5
  have e6 : v6 = .int .u32 c2.den := h6
  have e7 : v7 = .int .u32 c3.den := h7
  have e8 : v8 = .int .u32 c4.den := h8
  have e9 : v9 = .int .u32 c5.den := h9
  have e10 : v10 = .int .u32 c6.den := h10
  have e11 : v11 = .int .u32 c7.den := h11
  rw [e0, e1, e2, e3, e4, e5, e6, e7, e8, e9, e10, e11]
  rfl
 refine ⟨cs, rfl, key, fun v hv => ?_⟩
 rw [key] at hv
 simp only [lsA, List.mem_cons, List.not_mem_nil, or_false] at hv
 rcases hv with rfl | rfl | rfl | rfl | rfl | rfl | rfl | rfl | rfl | rfl | rfl | rfl <;> rfl
theorem conT3_ok : ∀ g l m t, conT3 g l m = some t → Con E0 g l m t := by
 intro g l m t h
 unfold conT3 at h
 split at h
 ·rename_i ts x; cases h
  exact Con.n1 (under_con x.den m)
 ·rename_i ts x a0 a1 a3 c0 c1 c2 c3 c4 c5 c6 c7; cases h
  refine Con.asked fun hq => Con.args (l' := [tbS ts, u32 x.den, tbS (lsA a0.den a1.den a3.den c0.den c1.den c2.den c3.den c4.den c5.den c6.den c7.den)]) (fun R vs ha => by
   match vs, ha with
   | [v, w, z], ha => exact ⟨ha.1, ha.2.1, ls_op ha.2.2.1, trivial⟩) ?_
  intro A hs
  refine set_con x.den m A ⟨fun p hp => ?_, hs⟩
  simp only [List.mem_cons, List.not_mem_nil, or_false] at hp
  rcases hp with rfl | rfl | rfl | rfl
  ·exact hq _ (by simp)
  ·exact hq _ (by simp)
  ·rfl
  ·exact hq _ (by simp)
 ·exact conT2_ok _ _ _ _ h
theorem EEm_ok : EnvOk EEm := EnvOk.with E0_ok _ _ conT3_ok
section
variable {us ts : Array Value} {h x : Int}
def clC (ts : Array Value) (h c : Int) : Int := if c ≠ h ∧ outF ts c h = true then 0 else c
def emT (us ts : Array Value) (h x : Int) : Array Value := rgT us x (upR us x) (quF us x) fun k => clC ts h (ceF us x k)
structure RI (us ts : Array Value) (h x : Int) (i : Nat) (rr : Array Value) : Prop where
 sz : rr.size = 12
 c : ∀ k, k < 8 → rr[4 + k]? = some (.int .u32 (if k < i then clC ts h (ceF us x k) else ceF us x k))
 r : ∀ k, k < 4 → rr[k]? = (getA us x)[k]?
theorem cl_in {c : Int} (hc : inH c) : inH (clC ts h c) := by
 unfold clC
 split
 ·exact ⟨by decide, by decide⟩
 ·exact hc
theorem em_set (hb : TbOk us) (hg : gdF us x = true) {rr : Array Value} (hr : RI us ts h x 8 rr) : RgOk (lsA (intAt rr 0) (intAt rr 1) (intAt rr 3) (intAt rr 4) (intAt rr 5) (intAt rr 6) (intAt rr 7) (intAt rr 8) (intAt rr 9) (intAt rr 10) (intAt rr 11)) 0 ∧ setT us x (lsA (intAt rr 0) (intAt rr 1) (intAt rr 3) (intAt rr 4) (intAt rr 5) (intAt rr 6) (intAt rr 7) (intAt rr 8) (intAt rr 9) (intAt rr 10) (intAt rr 11)) = emT us ts h x := by
 obtain ⟨i1, i2, i3⟩ := rg_in hb hg
 have ga : getA us x = rgA (upF us x) (quF us x) 0 (ceF us x) := by unfold getA; rw [if_pos hg]
 have r0 : rr[0]? = some (.int .u32 (upF us x)) := by rw [hr.r 0 (by decide), ga]; rfl
 have r1 : rr[1]? = some (.int .i64 (quF us x)) := by rw [hr.r 1 (by decide), ga]; rfl
 have r3 : rr[3]? = some (.int .i64 0) := by rw [hr.r 3 (by decide), ga]; rfl
 have c : ∀ k, k < 8 → intAt rr (4 + k) = clC ts h (ceF us x k) := fun k hk => by
  have := hr.c k hk
  rw [if_pos hk] at this
  exact intAt_of this
 have e0 : intAt rr 0 = upF us x := intAt_of r0
 have e1 : intAt rr 1 = quF us x := intAt_of r1
 have e3 : intAt rr 3 = 0 := intAt_of r3
 have hu : inH (upF us x) := by
  unfold upF
  rw [if_pos hg]
  split
  ·exact i1
  ·exact ⟨by decide, by decide⟩
 rw [e0, e1, e3, c 0 (by decide), c 1 (by decide), c 2 (by decide), c 3 (by decide), c 4 (by decide), c 5 (by decide), c 6 (by decide), c 7 (by decide)]
 refine ⟨?_, ?_⟩
 ·have key := rg_new (us := lsA (upF us x) (quF us x) 0 (clC ts h (ceF us x 0)) (clC ts h (ceF us x 1)) (clC ts h (ceF us x 2)) (clC ts h (ceF us x 3)) (clC ts h (ceF us x 4)) (clC ts h (ceF us x 5)) (clC ts h (ceF us x 6)) (clC ts h (ceF us x 7))) (p := 0) (u := upF us x) (q := quF us x) (c := fun k => clC ts h (ceF us x k)) (fun k hk => by rw [Nat.zero_add]; rfl) hu i2 (fun k hk => cl_in (i3 k hk))
  exact key.1
 ·unfold setT
  rw [if_pos hg]
  unfold emT rgT
  congr 2
theorem eL_ok (hf : FIn ts) (hh : inH h) (hb : TbOk us) (hx : gdF us x = true) (zz : Array Value) (hz : zz.size = 448) : ∀ (n i : Nat) (rr : Array Value), i + n = 8 → RI us ts h x i rr → Good Tryd.prog (retOk 2 [] (tbS (emT us ts h x)) (emM ts h)) 2 (eL_F us ts h x (i : Int) rr zz ((getA us x).extract 4 12)) (eL_M us ts h x (i : Int) rr zz ((getA us x).extract 4 12)) := by
 have hs := hb.sz
 have hts := hf.ok.sz
 have hh' : 0 ≤ h ∧ h < 4294967296 := hh
 have hx' : 0 ≤ x ∧ x < 4294967296 := (good_f hb hx).2.2.2.2.2.1
 have ga : getA us x = rgA (upF us x) (quF us x) 0 (ceF us x) := by unfold getA; rw [if_pos hx]
 have cc : ∀ k, k < 8 → ((getA us x).extract 4 12)[k]? = some (.int .u32 (ceF us x k)) := fun k hk => by
  rw [ga]
  match k, hk with
  | 0, _ | 1, _ | 2, _ | 3, _ | 4, _ | 5, _ | 6, _ | 7, _ => rfl
 intro n
 induction n with
 | zero =>
  intro i rr hi hr
  obtain rfl : i = 8 := by omega
  refine past_vc EEm_ok 1000 (emF us ts h x _ rr zz _ (emT us ts h x) (fun _ _ _ _ => False)) ?_ (fun _ _ h => h) (fun fs m hb => e1_go (fun _ _ _ _ h => h.elim) hb)
  unfold emF_0
  have d : decide (((8 : Nat) : Int) < 8) = false := decide_eq_false (by omega)
  obtain ⟨e1, e2⟩ := em_set hb hx hr
  have sz : (emT us ts h x).size = 448 := (rgT_f hb hx (rg_in hb hx).1 (rg_in hb hx).2.1 (fun k hk => cl_in ((rg_in hb hx).2.2 k hk))).1.sz
  have g0 : IsInt .u32 rr 0 := by have := hr.r 0 (by decide); rw [ga] at this; exact isI_of this
  have g1 : IsInt .i64 rr 1 := by have := hr.r 1 (by decide); rw [ga] at this; exact isI_of this
  have g2 : rr[2]? = some (.slice none 0 0) := by have := hr.r 2 (by decide); rw [ga] at this; exact this
  have g3 : IsInt .i64 rr 3 := by have := hr.r 3 (by decide); rw [ga] at this; exact isI_of this
  have g4 := isI_of (hr.c 0 (by decide))
  have g5 := isI_of (hr.c 1 (by decide))
  have g6 := isI_of (hr.c 2 (by decide))
  have g7 := isI_of (hr.c 3 (by decide))
  have g8 := isI_of (hr.c 4 (by decide))
  have g9 := isI_of (hr.c 5 (by decide))
  have g10 := isI_of (hr.c 6 (by decide))
  have g11 := isI_of (hr.c 7 (by decide))
  simp only [d, e1, e2, sz, hs, hz, hb, hx', g0, g1, g2, g3, g4, g5, g6, g7, g8, g9, g10, g11, q6]
 | succ n ih =>
  intro i rr hi hr
  have hi' : i < 8 := by omega
  have nx : ∀ r, RI us ts h x (i + 1) r → Good Tryd.prog (retOk 2 [] (tbS (emT us ts h x)) (emM ts h)) 2 (eL_F us ts h x ((i + 1 : Nat) : Int) r zz ((getA us x).extract 4 12)) (eL_M us ts h x ((i + 1 : Nat) : Int) r zz ((getA us x).extract 4 12)) := fun r hr => ih (i + 1) r (by omega) hr
  refine past_vc EEm_ok 1000 (emF us ts h x _ rr zz _ (emT us ts h x) (fun i' r' z' c' => i' = ((i + 1 : Nat) : Int) ∧ z' = zz ∧ c' = (getA us x).extract 4 12 ∧ RI us ts h x (i + 1) r')) ?_ (fun _ _ h => h) (fun fs m hb => e1_go (fun i' r' z' c' ⟨e1, e2, e3, e4⟩ => by rw [e1, e2, e3]; exact nx r' e4) hb)
  unfold emF_0
  have d : decide ((i : Int) < 8) = true := decide_eq_true (by omega)
  have ei : ari .add .i64 (i : Int) 1 = ((i + 1 : Nat) : Int) := by rw [ari_add, i64_in' (by omega) (by omega)]; omega
  have g1 : IsInt .u32 ((getA us x).extract 4 12) i := isI_of (cc i hi')
  have g2 : intAt ((getA us x).extract 4 12) i = ceF us x i := intAt_of (cc i hi')
  have y0 : 0 ≤ (i : Int) := by omega
  have y1 : (i : Int) < 8 := by omega
  have y2 : 4 + i < 12 := by omega
  have sz := hr.sz
  have keep : clC ts h (ceF us x i) = ceF us x i → RI us ts h x (i + 1) rr := fun e => by
   refine ⟨sz, fun k hk => ?_, hr.r⟩
   rw [hr.c k hk]
   by_cases c : k = i
   ·rw [c, if_neg (by omega), if_pos (by omega), e]
   ·by_cases c2 : k < i
    ·rw [if_pos c2, if_pos (by omega)]
    ·rw [if_neg c2, if_neg (by omega)]
  have put : clC ts h (ceF us x i) = 0 → RI us ts h x (i + 1) (rr.setIfInBounds (4 + i) (.int .u32 0)) := fun e => by
   refine ⟨by rw [set_size]; exact sz, fun k hk => ?_, fun k hk => by rw [set_out (by omega)]; exact hr.r k hk⟩
   by_cases c : k = i
   ·rw [c, set_in (by omega), if_pos (by omega), e]
   ·rw [set_out (by omega), hr.c k hk]
    by_cases c2 : k < i
    ·rw [if_pos c2, if_pos (by omega)]
    ·rw [if_neg c2, if_neg (by omega)]
  cases c1 : (ceF us x i != h) with
  | false =>
   have e : ceF us x i = h := by simpa using c1
   have k := keep (by unfold clC; rw [if_neg (fun k => k.1 e)])
   simp only [d, ei, g1, g2, y0, y1, y2, hts, hf, hh', sz, c1, k, Bool.false_beq, Bool.true_beq, decide_true, eL_d0_ok, q7, q8, q6]
  | true =>
   have e : ceF us x i ≠ h := by simpa using c1
   cases c2 : outF ts (ceF us x i) h with
   | false =>
    have k := keep (by unfold clC; rw [if_neg (fun k => by rw [c2] at k; exact absurd k.2 (by decide))])
    simp only [d, ei, g1, g2, y0, y1, y2, hts, hf, hh', sz, c1, c2, k, beqT, beqF, decide_true, eL_d0_ok, q7, q6]
   | true =>
    have k := put (by unfold clC; rw [if_pos ⟨e, c2⟩])
    simp only [d, ei, g1, g2, y0, y1, y2, hts, hf, hh', sz, c1, c2, k, beqT, beqF, decide_true, eL_d0_ok, q7, q6]
theorem fnEm : E0.fn 46 = some Tryd.f46 := by kernel_rfl
theorem bodyEm : Tryd.f46.body = some (Tryd.f46.body.getD .skip) := by kernel_rfl
theorem box_i {R R' : Ren} {k : IntKind} {n : SI} {cs : Array Value} (h : (SA.ls [.f (.int k n)]).okM R cs) : (SA.ls [.f (.int k (.o n.den))]).okM R' cs := by
 have h : All2 (SC.ok R) [.f (.int k n)] cs.toList := h
 show All2 (SC.ok R') [.f (.int k (.o n.den))] cs.toList
 revert h
 generalize cs.toList = l
 intro h
 match l, h with
 | [v], h => exact ⟨h.1, trivial⟩
theorem any_nil {R R' : Ren} {l : List Value} (h : All2 (SF.ok R) [] l) : All2 (SF.ok R') [] l := by
 match l, h with
 | [], _ => trivial
theorem emM_mem {q : Nat} {b : SBlk} (hb : getB (emM ts h).bl q = some b) : (q = 0 ∧ b = ⟨.ls [.f (.int .u32 (.o h))], 30, false⟩) ∨ (q = 1 ∧ b = ⟨.op ts, 39, false⟩) := by
 have hb : getB (((Tr.nil : Tr SBlk).set 0 (some ⟨.ls [.f (.int .u32 (.o h))], 30, false⟩)).set 1 (some ⟨.op ts, 39, false⟩)) q = some b := hb
 rw [getB_set] at hb
 split at hb
 ·rename_i e; cases hb; exact .inr ⟨e, rfl⟩
 ·rw [getB_set] at hb
  split at hb
  ·rename_i e; cases hb; exact .inl ⟨e, rfl⟩
  ·have hb : (Tr.nil : Tr SBlk).get q = some b := hb
   rw [Tr.get_nil] at hb
   cases hb
theorem em_con {m : SMem} {i j : Nat} {n0 : SI} {w0 w1 : Bool} (hb0 : getB m.bl i = some ⟨.ls [.f (.int .u32 n0)], 30, w0⟩) (hb1 : getB m.bl j = some ⟨.op ts, 39, w1⟩) : Con E0 46 [tbS us, u32 x, .s (.c (.fn (.func 44) [] [.ptr i (.l 0), .ptr j (.l 0)]))] m (needs [TbOk us, gdF us x = true, FIn ts, inH n0.den] (.ret (tbS (emT us ts n0.den x)) m)) := by
 have hm : ∀ q b, getB (emM ts n0.den).bl q = some b → q < (emM ts n0.den).next ∧ b.wr = false ∧ ∃ d, getB m.bl ((fun q => if q = 0 then i else j) q) = some d ∧ b.ty = d.ty ∧ ∀ R cs, d.arr.okM R cs → b.arr.okM (pull (fun q => if q = 0 then i else j) (emM ts n0.den).next R) cs := by
  intro q b hb
  rcases emM_mem hb with ⟨rfl, rfl⟩ | ⟨rfl, rfl⟩
  ·exact ⟨(show 0 < 2 by decide), rfl, _, hb0, rfl, fun R cs' h => box_i h⟩
  ·exact ⟨(show 1 < 2 by decide), rfl, _, hb1, rfl, fun R cs' h => h⟩
 have hl : ∀ R vs, All2 (SV.ok R) [tbS us, u32 x, .s (.c (.fn (.func 44) [] [.ptr i (.l 0), .ptr j (.l 0)]))] vs → All2 (SV.ok (pull (fun q => if q = 0 then i else j) (emM ts n0.den).next R)) [tbS us, u32 x, cloS] vs := by
  intro R vs ha
  match vs, ha with
  | [u, u', v], ha =>
   obtain ⟨h0, h0', ⟨a, b, e, h1, h2⟩, _⟩ := ha
   refine ⟨h0, h0', ⟨a, b, e, any_nil h1, ?_⟩, trivial⟩
   revert h2
   generalize b.toList = l
   intro h2
   match l, h2 with
   | [c0, c1], ⟨q0, q1, _⟩ => exact ⟨(let ⟨g, e1, e2⟩ := q0; ⟨g, (by unfold pull; exact e1), e2⟩), (let ⟨g, e1, e2⟩ := q1; ⟨g, (by unfold pull; exact e1), e2⟩), trivial⟩
 refine Con.readV E0_ok fnEm bodyEm rfl _ hm hl (A := fun s m => s = tbS (emT us ts n0.den x) ∧ m = emM ts n0.den) (fun hq => ?_) (fun s m' R R' v hs hv => by rw [hs.1] at hv; exact hv)
 have hb : TbOk us := hq _ (by simp)
 have hx : gdF us x = true := hq _ (by simp)
 have hf : FIn ts := hq _ (by simp)
 have hh : inH n0.den := hq _ (by simp)
 have hs := hb.sz
 have hx' : 0 ≤ x ∧ x < 4294967296 := (good_f hb hx).2.2.2.2.2.1
 refine Good.ret [] (run_vc EEm_ok 1000 (emF0 us ts n0.den x (emT us ts n0.den x) (fun i r z c => i = ((0 : Nat) : Int) ∧ z = zT ∧ c = (getA us x).extract 4 12 ∧ r = getA us x)) ?_ (fun s m h => h) fun fs m hm => e0_go (fun i r z c ⟨e1, e2, e3, e4⟩ => by
  rw [e1, e2, e3, e4]
  refine eL_ok hf hh hb hx zT zT_sz 8 0 (getA us x) (by omega) ⟨(getA_facts us x).1, fun k hk => ?_, fun k hk => rfl⟩
  have ga : getA us x = rgA (upF us x) (quF us x) 0 (ceF us x) := by unfold getA; rw [if_pos hx]
  rw [ga, if_neg (by omega)]
  match k, hk with
  | 0, _ | 1, _ | 2, _ | 3, _ | 4, _ | 5, _ | 6, _ | 7, _ => rfl) hm)
 have g12 := (getA_facts us x).1
 have y : (12 : Nat) ≤ 12 := by decide
 simp only [hs, hb, hx', g12, y, and_true, true_and, eL_d0_ok, cNt]
 rfl
end
set_option linter.unusedVariables false
noncomputable def conT4 (g : FuncId) (l : List SV) (m : SMem) : Option Tree := match g, l with
 | 46, [.s (.agg (.op us)), .s (.c (.f (.int .u32 x))), .s (.c (.fn (.func 44) [] [.ptr i (.l 0), .ptr j (.l 0)]))] => (match getB m.bl i, getB m.bl j with | some ⟨.ls [.f (.int .u32 n0)], 30, _⟩, some ⟨.op ts, 39, _⟩ => some (.need [TbOk us, gdF us x.den = true, FIn ts, inH n0.den] (.ret (tbS (emT us ts n0.den x.den)) m)) | _, _ => none)
 | g, l => conT3 g l m
theorem conT4_ok : ∀ g l m t, conT4 g l m = some t → Con E0 g l m t := by
 intro g l m t h
 unfold conT4 at h
 split at h
 ·rename_i us x i j
  split at h
  ·rename_i n0 w0 ts w1 h0 h1; cases h
   refine Con.args (l' := [tbS us, u32 x.den, .s (.c (.fn (.func 44) [] [.ptr i (.l 0), .ptr j (.l 0)]))]) (fun R vs ha => by
    match vs, ha with
    | [v, w, z], ha => exact ⟨ha.1, ha.2.1, ha.2.2.1, trivial⟩) ?_
   exact em_con h0 h1
  ·cases h
 ·exact conT3_ok _ _ _ _ h
noncomputable def cLp : LoopP := rfP Tryd.f14 0 14
noncomputable def Ec0 : Env := ⟨Tryd.prog, fnOf, conT4, haltAt [80 * 1000 + 3]⟩
noncomputable def Ecn : Env := ⟨Tryd.prog, fnOf, conT4, haltAt [80 * 1000 + 3, 67 * 1000 + 3]⟩
noncomputable def cA_d0 : List SIt := sekF Tryd.f67 3
noncomputable def cA_d1 : List SIt := .inR 8 :: rfK Tryd.f14 0
noncomputable def cA_F (j : Nat) (ts : Array Value) (h : Int) (u0 : Array Value) (us : Array Value) (zz : Array Value) (n : Nat) (cs : Array Value) : List SFr := [frOfD 67 Tryd.f67 [(0, ylS 8), (1, ptr 5 (.l 0)), (4, ptr 10 (.l 0))] cA_d0 (colD (j)), frRf 14 Tryd.f14 [(2, ptr 0 (.l 0)), (3, ptr 1 (.l 0)), (4, ptr 2 (.l 0)), (6, ptr 3 (.l 0)), (8, ptr 4 (.l 0))] cA_d1 7]
noncomputable def cA_M (j : Nat) (ts : Array Value) (h : Int) (u0 : Array Value) (us : Array Value) (zz : Array Value) (n : Nat) (cs : Array Value) : SMem := addX (colX (j)) (mkMX 60 [(0, ⟨.op ts, 39, true⟩), (1, ⟨.ls [.f (.int .u32 (.o h))], 30, true⟩), (2, ⟨.op zz, 39, true⟩), (3, ⟨.op us, 39, true⟩), (4, ⟨.ls [.fn (.func 44) [] [.ptr 1 (.l 0), .ptr 0 (.l 0)]], 81, true⟩), (5, ⟨.op u0, 39, true⟩), (9, ⟨.pop cs, 30, true⟩), (10, ⟨.ls [slK 9 n], 68, true⟩)] [(7, .defr), (8, rfLp Tryd.f14 0 14 (tmOf Tryd.f14.ntmps [(2, ptr 0 (.l 0)), (3, ptr 1 (.l 0)), (4, ptr 2 (.l 0)), (6, ptr 3 (.l 0)), (8, ptr 4 (.l 0))]) 7)])
noncomputable def cA_n (j : Nat) (ts : Array Value) (h : Int) (u0 : Array Value) (Q : Array Value → Array Value → Nat → Array Value → Prop) (fs : List SFr) (m : SMem) : Prop := (match frNth fs 0 with | some f0 => (match frNth fs 1 with | some f1 => (match rdP f1 2 with | some p0 => (match rdP f1 3 with | some p1 => (match rdP f1 4 with | some p2 => (match rdP f1 6 with | some p3 => (match rdP f1 8 with | some p4 => (match rdP f0 1 with | some p5 => (match rdYl f0 0 with | some p8 => (match rdDl m p8 with | some p7 => (match rdP f0 4 with | some p10 => (match rdCP m p10 0 with | some p9 => (match rdA m p3 with | some us => (match rdA m p2 with | some zz => (match rdCN m p10 0 with | some n => (match rdA m p9 with | some cs => Q us zz n cs ∧ subOk 0 ([(0, p0), (1, p1), (2, p2), (3, p3), (4, p4), (5, p5), (7, p7), (8, p8), (9, p9), (10, p10)] ++ colZ (j) f0.dfs) (cA_F j ts h u0 us zz n cs) (cA_M j ts h u0 us zz n cs) fs m | none => False) | none => False) | none => False) | none => False) | none => False) | none => False) | none => False) | none => False) | none => False) | none => False) | none => False) | none => False) | none => False) | none => False) | none => False) | none => False)
noncomputable def cB_d0 : List SIt := sekF Tryd.f80 3
noncomputable def cB_d1 : List SIt := .inR 63 :: rfK Tryd.f67 0
noncomputable def cB_d2 : List SIt := .inR 8 :: rfK Tryd.f14 0
noncomputable def cB_F (j : Nat) (ts : Array Value) (h : Int) (u0 : Array Value) (r : Nat) (ks : Array Value) (i : Int) (us : Array Value) (zz : Array Value) (n : Nat) (cs : Array Value) : List SFr := [frOf 80 Tryd.f80 [(0, ylS 63), (1, ptr 61 (.l 0)), (3, i64 (.o i))] cB_d0, frOfD 67 Tryd.f67 [(0, ylS 8), (1, ptr 5 (.l 0)), (4, ptr 10 (.l 0))] cB_d1 (colD (j+1)), frRf 14 Tryd.f14 [(2, ptr 0 (.l 0)), (3, ptr 1 (.l 0)), (4, ptr 2 (.l 0)), (6, ptr 3 (.l 0)), (8, ptr 4 (.l 0))] cB_d2 7]
noncomputable def cB_M (j : Nat) (ts : Array Value) (h : Int) (u0 : Array Value) (r : Nat) (ks : Array Value) (i : Int) (us : Array Value) (zz : Array Value) (n : Nat) (cs : Array Value) : SMem := addX (colX (j+1)) (mkMX 64 [(0, ⟨.op ts, 39, true⟩), (1, ⟨.ls [.f (.int .u32 (.o h))], 30, true⟩), (2, ⟨.op zz, 39, true⟩), (3, ⟨.op us, 39, true⟩), (4, ⟨.ls [.fn (.func 44) [] [.ptr 1 (.l 0), .ptr 0 (.l 0)]], 81, true⟩), (5, ⟨.op u0, 39, true⟩), (9, ⟨.pop cs, 30, true⟩), (10, ⟨.ls [slK 9 n], 68, true⟩), (60, ⟨.pop ks, 30, true⟩), (61, ⟨.ls [slC 60 r], 68, true⟩)] [(7, .defr), (8, rfLp Tryd.f14 0 14 (tmOf Tryd.f14.ntmps [(2, ptr 0 (.l 0)), (3, ptr 1 (.l 0)), (4, ptr 2 (.l 0)), (6, ptr 3 (.l 0)), (8, ptr 4 (.l 0))]) 7), (63, rfLp Tryd.f67 0 67 (tmOf Tryd.f67.ntmps [(0, ylS 8), (1, ptr 5 (.l 0)), (4, ptr 10 (.l 0))]) (20 + j))])
noncomputable def cB_n (j : Nat) (ts : Array Value) (h : Int) (u0 : Array Value) (r : Nat) (ks : Array Value) (Q : Int → Array Value → Array Value → Nat → Array Value → Prop) (fs : List SFr) (m : SMem) : Prop := (match frNth fs 0 with | some f0 => (match frNth fs 1 with | some f1 => (match frNth fs 2 with | some f2 => (match rdI f0 3 with | some i => (match rdP f2 2 with | some p0 => (match rdP f2 3 with | some p1 => (match rdP f2 4 with | some p2 => (match rdP f2 6 with | some p3 => (match rdP f2 8 with | some p4 => (match rdP f1 1 with | some p5 => (match rdYl f1 0 with | some p8 => (match rdDl m p8 with | some p7 => (match rdP f1 4 with | some p10 => (match rdCP m p10 0 with | some p9 => (match rdP f0 1 with | some p61 => (match rdCP m p61 0 with | some p60 => (match rdYl f0 0 with | some p63 => (match rdA m p3 with | some us => (match rdA m p2 with | some zz => (match rdCN m p10 0 with | some n => (match rdA m p9 with | some cs => Q i us zz n cs ∧ subOk 0 ([(0, p0), (1, p1), (2, p2), (3, p3), (4, p4), (5, p5), (7, p7), (8, p8), (9, p9), (10, p10), (60, p60), (61, p61), (63, p63)] ++ colZ (j+1) f1.dfs) (cB_F j ts h u0 r ks i us zz n cs) (cB_M j ts h u0 r ks i us zz n cs) fs m | none => False) | none => False) | none => False) | none => False) | none => False) | none => False) | none => False) | none => False) | none => False) | none => False) | none => False) | none => False) | none => False) | none => False) | none => False) | none => False) | none => False) | none => False) | none => False) | none => False) | none => False)
noncomputable def cI_d0 : List SIt := sekF Tryd.f80 3
noncomputable def cI_d1 : List SIt := .inR 14 :: rfK Tryd.f67 0
noncomputable def cI_d2 : List SIt := .inR 8 :: rfK Tryd.f14 0
noncomputable def cI_F (ts : Array Value) (h : Int) (u0 : Array Value) (r : Nat) (ks : Array Value) (i : Int) (us : Array Value) (zz : Array Value) : List SFr := [frOf 80 Tryd.f80 [(0, ylS 14), (1, ptr 12 (.l 0)), (3, i64 (.o i))] cI_d0, frRf 67 Tryd.f67 [(0, ylS 8), (1, ptr 5 (.l 0)), (4, ptr 10 (.l 0))] cI_d1 13, frRf 14 Tryd.f14 [(2, ptr 0 (.l 0)), (3, ptr 1 (.l 0)), (4, ptr 2 (.l 0)), (6, ptr 3 (.l 0)), (8, ptr 4 (.l 0))] cI_d2 7]
noncomputable def cI_M (ts : Array Value) (h : Int) (u0 : Array Value) (r : Nat) (ks : Array Value) (i : Int) (us : Array Value) (zz : Array Value) : SMem := mkMX 15 [(0, ⟨.op ts, 39, true⟩), (1, ⟨.ls [.f (.int .u32 (.o h))], 30, true⟩), (2, ⟨.op zz, 39, true⟩), (3, ⟨.op us, 39, true⟩), (4, ⟨.ls [.fn (.func 44) [] [.ptr 1 (.l 0), .ptr 0 (.l 0)]], 81, true⟩), (5, ⟨.op u0, 39, true⟩), (9, ⟨.ls [.f (.int .u32 (.o h))], 30, true⟩), (10, ⟨.ls [.f (.slice 9 (.l 0) (.l 0) (.n (.l 1)))], 68, true⟩), (11, ⟨.pop ks, 30, true⟩), (12, ⟨.ls [slC 11 r], 68, true⟩)] [(7, .defr), (8, rfLp Tryd.f14 0 14 (tmOf Tryd.f14.ntmps [(2, ptr 0 (.l 0)), (3, ptr 1 (.l 0)), (4, ptr 2 (.l 0)), (6, ptr 3 (.l 0)), (8, ptr 4 (.l 0))]) 7), (13, .defr), (14, rfLp Tryd.f67 0 67 (tmOf Tryd.f67.ntmps [(0, ylS 8), (1, ptr 5 (.l 0)), (4, ptr 10 (.l 0))]) 13)]
noncomputable def cI_n (ts : Array Value) (h : Int) (u0 : Array Value) (r : Nat) (ks : Array Value) (Q : Int → Array Value → Array Value → Prop) (fs : List SFr) (m : SMem) : Prop := (match frNth fs 0 with | some f0 => (match frNth fs 1 with | some f1 => (match frNth fs 2 with | some f2 => (match rdI f0 3 with | some i => (match rdP f2 2 with | some p0 => (match rdP f2 3 with | some p1 => (match rdP f2 4 with | some p2 => (match rdP f2 6 with | some p3 => (match rdP f2 8 with | some p4 => (match rdP f1 1 with | some p5 => (match rdYl f1 0 with | some p8 => (match rdDl m p8 with | some p7 => (match rdP f1 4 with | some p10 => (match rdCP m p10 0 with | some p9 => (match rdP f0 1 with | some p12 => (match rdCP m p12 0 with | some p11 => (match rdYl f0 0 with | some p14 => (match rdDl m p14 with | some p13 => (match rdA m p3 with | some us => (match rdA m p2 with | some zz => Q i us zz ∧ subOk 0 [(0, p0), (1, p1), (2, p2), (3, p3), (4, p4), (5, p5), (7, p7), (8, p8), (9, p9), (10, p10), (11, p11), (12, p12), (13, p13), (14, p14)] (cI_F ts h u0 r ks i us zz) (cI_M ts h u0 r ks i us zz) fs m | none => False) | none => False) | none => False) | none => False) | none => False) | none => False) | none => False) | none => False) | none => False) | none => False) | none => False) | none => False) | none => False) | none => False) | none => False) | none => False) | none => False) | none => False) | none => False) | none => False)
noncomputable def cT0 (ts : Array Value) (h : Int) : Tree := run Ec0 1000 0 [callFr 14 Tryd.f14.ntmps [tbS ts, u32 h] (Tryd.f14.body.getD .skip)] e0M
noncomputable def cAB (j : Nat) (ts : Array Value) (h : Int) (u0 : Array Value) (r : Nat) (ks : Array Value) (QA : Array Value → Array Value → Nat → Array Value → Prop) (QB : Int → Array Value → Array Value → Nat → Array Value → Prop) (fs : List SFr) (m : SMem) : Prop := match Nat.beq (atR fs) (67 * 1000 + 3) with | true => cA_n (j + 1) ts h u0 QA fs m | false => cB_n j ts h u0 r ks QB fs m
theorem cA_d0_ok (r : Nat → Option Nat) : TodoOk r cA_d0 cA_d0 := TodoOk.it (by kernel_rfl)
theorem cA_d1_ok {l : List (Nat × Nat)} : TodoOk (ren 0 ([(0, 0), (1, 1), (2, 2), (3, 3), (4, 4), (5, 5), (7, 7), (8, 8), (9, 9), (10, 10)] ++ l)) cA_d1 cA_d1 := TodoOk.rf rfl (by kernel_rfl)
theorem cA_d1_ok0 : TodoOk (ren 0 [(0, 0), (1, 1), (2, 2), (3, 3), (4, 4), (5, 5), (7, 7), (8, 8), (9, 9), (10, 10)]) cA_d1 cA_d1 := TodoOk.rf rfl (by kernel_rfl)
theorem cB_d0_ok (r : Nat → Option Nat) : TodoOk r cB_d0 cB_d0 := TodoOk.it (by kernel_rfl)
theorem cB_d1_ok {l : List (Nat × Nat)} : TodoOk (ren 0 ([(0, 0), (1, 1), (2, 2), (3, 3), (4, 4), (5, 5), (7, 7), (8, 8), (9, 9), (10, 10), (60, 60), (61, 61), (63, 63)] ++ l)) cB_d1 cB_d1 := TodoOk.rf rfl (by kernel_rfl)
theorem cB_d1_ok0 : TodoOk (ren 0 [(0, 0), (1, 1), (2, 2), (3, 3), (4, 4), (5, 5), (7, 7), (8, 8), (9, 9), (10, 10), (60, 60), (61, 61), (63, 63)]) cB_d1 cB_d1 := TodoOk.rf rfl (by kernel_rfl)
theorem cB_d2_ok {l : List (Nat × Nat)} : TodoOk (ren 0 ([(0, 0), (1, 1), (2, 2), (3, 3), (4, 4), (5, 5), (7, 7), (8, 8), (9, 9), (10, 10), (60, 60), (61, 61), (63, 63)] ++ l)) cB_d2 cB_d2 := TodoOk.rf rfl (by kernel_rfl)
theorem cI_d0_ok (r : Nat → Option Nat) : TodoOk r cI_d0 cI_d0 := TodoOk.it (by kernel_rfl)
theorem cI_d1_ok {l : List (Nat × Nat)} : TodoOk (ren 0 ([(0, 0), (1, 1), (2, 2), (3, 3), (4, 4), (5, 5), (7, 7), (8, 8), (9, 9), (10, 10), (11, 11), (12, 12), (13, 13), (14, 14)] ++ l)) cI_d1 cI_d1 := TodoOk.rf rfl (by kernel_rfl)
theorem cI_d1_ok0 : TodoOk (ren 0 [(0, 0), (1, 1), (2, 2), (3, 3), (4, 4), (5, 5), (7, 7), (8, 8), (9, 9), (10, 10), (11, 11), (12, 12), (13, 13), (14, 14)]) cI_d1 cI_d1 := TodoOk.rf rfl (by kernel_rfl)
theorem cI_d2_ok {l : List (Nat × Nat)} : TodoOk (ren 0 ([(0, 0), (1, 1), (2, 2), (3, 3), (4, 4), (5, 5), (7, 7), (8, 8), (9, 9), (10, 10), (11, 11), (12, 12), (13, 13), (14, 14)] ++ l)) cI_d2 cI_d2 := TodoOk.rf rfl (by kernel_rfl)
theorem cA_good {A : SV → SMem → Prop} {j : Nat} {ts : Array Value} {h : Int} {u0 : Array Value} {Q : Array Value → Array Value → Nat → Array Value → Prop} {fs : List SFr} {m : SMem} (H : ∀ us zz n cs, Q us zz n cs → Good Tryd.prog A 0 (cA_F j ts h u0 us zz n cs) (cA_M j ts h u0 us zz n cs)) (hb : cA_n j ts h u0 Q fs m) : Good Tryd.prog A 0 fs m := by
 unfold cA_n at hb
 iterate 16 (split at hb; rotate_left; exact hb.elim)
 exact Good.of_sub hb.2 (H _ _ _ _ hb.1)
theorem cB_good {A : SV → SMem → Prop} {j : Nat} {ts : Array Value} {h : Int} {u0 : Array Value} {r : Nat} {ks : Array Value} {Q : Int → Array Value → Array Value → Nat → Array Value → Prop} {fs : List SFr} {m : SMem} (H : ∀ i us zz n cs, Q i us zz n cs → Good Tryd.prog A 0 (cB_F j ts h u0 r ks i us zz n cs) (cB_M j ts h u0 r ks i us zz n cs)) (hb : cB_n j ts h u0 r ks Q fs m) : Good Tryd.prog A 0 fs m := by
 unfold cB_n at hb
 iterate 21 (split at hb; rotate_left; exact hb.elim)
 exact Good.of_sub hb.2 (H _ _ _ _ _ hb.1)
theorem cI_good {A : SV → SMem → Prop} {ts : Array Value} {h : Int} {u0 : Array Value} {r : Nat} {ks : Array Value} {Q : Int → Array Value → Array Value → Prop} {fs : List SFr} {m : SMem} (H : ∀ i us zz, Q i us zz → Good Tryd.prog A 0 (cI_F ts h u0 r ks i us zz) (cI_M ts h u0 r ks i us zz)) (hb : cI_n ts h u0 r ks Q fs m) : Good Tryd.prog A 0 fs m := by
 unfold cI_n at hb
 iterate 20 (split at hb; rotate_left; exact hb.elim)
 exact Good.of_sub hb.2 (H _ _ _ hb.1)
set_option linter.unusedVariables false
noncomputable def gLp : LoopP := rfP Tryd.f15 0 15
noncomputable def Eg0 : Env := ⟨Tryd.prog, fnOf, conT4, haltAt [80 * 1000 + 3]⟩
noncomputable def Egn : Env := ⟨Tryd.prog, fnOf, conT4, haltAt [80 * 1000 + 3, 67 * 1000 + 3]⟩
noncomputable def gA_d0 : List SIt := sekF Tryd.f67 3
noncomputable def gA_d1 : List SIt := .inR 7 :: rfK Tryd.f15 0
noncomputable def gA_F (j : Nat) (ts : Array Value) (h : Int) (up : Int) (zz : Array Value) (n : Nat) (cs : Array Value) : List SFr := [frOfD 67 Tryd.f67 [(0, ylS 7), (1, ptr 4 (.l 0)), (4, ptr 9 (.l 0))] gA_d0 (colD (j)), frRf 15 Tryd.f15 [(1, .s (.c (.f (.int .u32 (.o h))))), (3, ptr 0 (.l 0)), (5, ptr 1 (.l 0)), (6, ptr 2 (.l 0)), (7, ptr 3 (.l 0))] gA_d1 6]
noncomputable def gA_M (j : Nat) (ts : Array Value) (h : Int) (up : Int) (zz : Array Value) (n : Nat) (cs : Array Value) : SMem := addX (colX (j)) (mkMX 60 [(0, ⟨.op ts, 39, true⟩), (1, ⟨.ls [.f (.int .u32 (.o up))], 30, true⟩), (2, ⟨.op zz, 39, true⟩), (3, ⟨.ls [.f (.int .i64 (.l 0))], 55, true⟩), (4, ⟨.op ts, 39, true⟩), (8, ⟨.pop cs, 30, true⟩), (9, ⟨.ls [slK 8 n], 68, true⟩)] [(6, .defr), (7, rfLp Tryd.f15 0 15 (tmOf Tryd.f15.ntmps [(1, u32 h), (3, ptr 0 (.l 0)), (5, ptr 1 (.l 0)), (6, ptr 2 (.l 0)), (7, ptr 3 (.l 0))]) 6)])
noncomputable def gA_n (j : Nat) (ts : Array Value) (h : Int) (up : Int) (Q : Array Value → Nat → Array Value → Prop) (fs : List SFr) (m : SMem) : Prop := (match frNth fs 0 with | some f0 => (match frNth fs 1 with | some f1 => (match rdP f1 3 with | some p0 => (match rdP f1 5 with | some p1 => (match rdP f1 6 with | some p2 => (match rdP f1 7 with | some p3 => (match rdP f0 1 with | some p4 => (match rdYl f0 0 with | some p7 => (match rdDl m p7 with | some p6 => (match rdP f0 4 with | some p9 => (match rdCP m p9 0 with | some p8 => (match rdA m p2 with | some zz => (match rdCN m p9 0 with | some n => (match rdA m p8 with | some cs => Q zz n cs ∧ subOk 0 ([(0, p0), (1, p1), (2, p2), (3, p3), (4, p4), (6, p6), (7, p7), (8, p8), (9, p9)] ++ colZ (j) f0.dfs) (gA_F j ts h up zz n cs) (gA_M j ts h up zz n cs) fs m | none => False) | none => False) | none => False) | none => False) | none => False) | none => False) | none => False) | none => False) | none => False) | none => False) | none => False) | none => False) | none => False) | none => False)
noncomputable def gB_d0 : List SIt := sekF Tryd.f80 3
noncomputable def gB_d1 : List SIt := .inR 63 :: rfK Tryd.f67 0
noncomputable def gB_d2 : List SIt := .inR 7 :: rfK Tryd.f15 0
noncomputable def gB_F (j : Nat) (ts : Array Value) (h : Int) (up : Int) (r : Nat) (ks : Array Value) (i : Int) (zz : Array Value) (n : Nat) (cs : Array Value) : List SFr := [frOf 80 Tryd.f80 [(0, ylS 63), (1, ptr 61 (.l 0)), (3, i64 (.o i))] gB_d0, frOfD 67 Tryd.f67 [(0, ylS 7), (1, ptr 4 (.l 0)), (4, ptr 9 (.l 0))] gB_d1 (colD (j+1)), frRf 15 Tryd.f15 [(1, .s (.c (.f (.int .u32 (.o h))))), (3, ptr 0 (.l 0)), (5, ptr 1 (.l 0)), (6, ptr 2 (.l 0)), (7, ptr 3 (.l 0))] gB_d2 6]
noncomputable def gB_M (j : Nat) (ts : Array Value) (h : Int) (up : Int) (r : Nat) (ks : Array Value) (i : Int) (zz : Array Value) (n : Nat) (cs : Array Value) : SMem := addX (colX (j+1)) (mkMX 64 [(0, ⟨.op ts, 39, true⟩), (1, ⟨.ls [.f (.int .u32 (.o up))], 30, true⟩), (2, ⟨.op zz, 39, true⟩), (3, ⟨.ls [.f (.int .i64 (.l 0))], 55, true⟩), (4, ⟨.op ts, 39, true⟩), (8, ⟨.pop cs, 30, true⟩), (9, ⟨.ls [slK 8 n], 68, true⟩), (60, ⟨.pop ks, 30, true⟩), (61, ⟨.ls [slC 60 r], 68, true⟩)] [(6, .defr), (7, rfLp Tryd.f15 0 15 (tmOf Tryd.f15.ntmps [(1, u32 h), (3, ptr 0 (.l 0)), (5, ptr 1 (.l 0)), (6, ptr 2 (.l 0)), (7, ptr 3 (.l 0))]) 6), (63, rfLp Tryd.f67 0 67 (tmOf Tryd.f67.ntmps [(0, ylS 7), (1, ptr 4 (.l 0)), (4, ptr 9 (.l 0))]) (20 + j))])
noncomputable def gB_n (j : Nat) (ts : Array Value) (h : Int) (up : Int) (r : Nat) (ks : Array Value) (Q : Int → Array Value → Nat → Array Value → Prop) (fs : List SFr) (m : SMem) : Prop := (match frNth fs 0 with | some f0 => (match frNth fs 1 with | some f1 => (match frNth fs 2 with | some f2 => (match rdI f0 3 with | some i => (match rdP f2 3 with | some p0 => (match rdP f2 5 with | some p1 => (match rdP f2 6 with | some p2 => (match rdP f2 7 with | some p3 => (match rdP f1 1 with | some p4 => (match rdYl f1 0 with | some p7 => (match rdDl m p7 with | some p6 => (match rdP f1 4 with | some p9 => (match rdCP m p9 0 with | some p8 => (match rdP f0 1 with | some p61 => (match rdCP m p61 0 with | some p60 => (match rdYl f0 0 with | some p63 => (match rdA m p2 with | some zz => (match rdCN m p9 0 with | some n => (match rdA m p8 with | some cs => Q i zz n cs ∧ subOk 0 ([(0, p0), (1, p1), (2, p2), (3, p3), (4, p4), (6, p6), (7, p7), (8, p8), (9, p9), (60, p60), (61, p61), (63, p63)] ++ colZ (j+1) f1.dfs) (gB_F j ts h up r ks i zz n cs) (gB_M j ts h up r ks i zz n cs) fs m | none => False) | none => False) | none => False) | none => False) | none => False) | none => False) | none => False) | none => False) | none => False) | none => False) | none => False) | none => False) | none => False) | none => False) | none => False) | none => False) | none => False) | none => False) | none => False)
noncomputable def gI_d0 : List SIt := sekF Tryd.f80 3
noncomputable def gI_d1 : List SIt := .inR 13 :: rfK Tryd.f67 0
noncomputable def gI_d2 : List SIt := .inR 7 :: rfK Tryd.f15 0
noncomputable def gI_F (ts : Array Value) (h : Int) (up : Int) (r : Nat) (ks : Array Value) (i : Int) (zz : Array Value) : List SFr := [frOf 80 Tryd.f80 [(0, ylS 13), (1, ptr 11 (.l 0)), (3, i64 (.o i))] gI_d0, frRf 67 Tryd.f67 [(0, ylS 7), (1, ptr 4 (.l 0)), (4, ptr 9 (.l 0))] gI_d1 12, frRf 15 Tryd.f15 [(1, .s (.c (.f (.int .u32 (.o h))))), (3, ptr 0 (.l 0)), (5, ptr 1 (.l 0)), (6, ptr 2 (.l 0)), (7, ptr 3 (.l 0))] gI_d2 6]
noncomputable def gI_M (ts : Array Value) (h : Int) (up : Int) (r : Nat) (ks : Array Value) (i : Int) (zz : Array Value) : SMem := mkMX 14 [(0, ⟨.op ts, 39, true⟩), (1, ⟨.ls [.f (.int .u32 (.o up))], 30, true⟩), (2, ⟨.op zz, 39, true⟩), (3, ⟨.ls [.f (.int .i64 (.l 0))], 55, true⟩), (4, ⟨.op ts, 39, true⟩), (8, ⟨.ls [.f (.int .u32 (.o h))], 30, true⟩), (9, ⟨.ls [.f (.slice 8 (.l 0) (.l 0) (.n (.l 1)))], 68, true⟩), (10, ⟨.pop ks, 30, true⟩), (11, ⟨.ls [slC 10 r], 68, true⟩)] [(6, .defr), (7, rfLp Tryd.f15 0 15 (tmOf Tryd.f15.ntmps [(1, u32 h), (3, ptr 0 (.l 0)), (5, ptr 1 (.l 0)), (6, ptr 2 (.l 0)), (7, ptr 3 (.l 0))]) 6), (12, .defr), (13, rfLp Tryd.f67 0 67 (tmOf Tryd.f67.ntmps [(0, ylS 7), (1, ptr 4 (.l 0)), (4, ptr 9 (.l 0))]) 12)]
noncomputable def gI_n (ts : Array Value) (h : Int) (up : Int) (r : Nat) (ks : Array Value) (Q : Int → Array Value → Prop) (fs : List SFr) (m : SMem) : Prop := (match frNth fs 0 with | some f0 => (match frNth fs 1 with | some f1 => (match frNth fs 2 with | some f2 => (match rdI f0 3 with | some i => (match rdP f2 3 with | some p0 => (match rdP f2 5 with | some p1 => (match rdP f2 6 with | some p2 => (match rdP f2 7 with | some p3 => (match rdP f1 1 with | some p4 => (match rdYl f1 0 with | some p7 => (match rdDl m p7 with | some p6 => (match rdP f1 4 with | some p9 => (match rdCP m p9 0 with | some p8 => (match rdP f0 1 with | some p11 => (match rdCP m p11 0 with | some p10 => (match rdYl f0 0 with | some p13 => (match rdDl m p13 with | some p12 => (match rdA m p2 with | some zz => Q i zz ∧ subOk 0 [(0, p0), (1, p1), (2, p2), (3, p3), (4, p4), (6, p6), (7, p7), (8, p8), (9, p9), (10, p10), (11, p11), (12, p12), (13, p13)] (gI_F ts h up r ks i zz) (gI_M ts h up r ks i zz) fs m | none => False) | none => False) | none => False) | none => False) | none => False) | none => False) | none => False) | none => False) | none => False) | none => False) | none => False) | none => False) | none => False) | none => False) | none => False) | none => False) | none => False) | none => False)
noncomputable def gT0 (ts : Array Value) (h : Int) (up : Int) : Tree := run Eg0 1000 0 [callFr 15 Tryd.f15.ntmps [tbS ts, u32 h, u32 up] (Tryd.f15.body.getD .skip)] e0M
noncomputable def gAB (j : Nat) (ts : Array Value) (h : Int) (up : Int) (r : Nat) (ks : Array Value) (QA : Array Value → Nat → Array Value → Prop) (QB : Int → Array Value → Nat → Array Value → Prop) (fs : List SFr) (m : SMem) : Prop := match Nat.beq (atR fs) (67 * 1000 + 3) with | true => gA_n (j + 1) ts h up QA fs m | false => gB_n j ts h up r ks QB fs m
theorem gA_d0_ok (r : Nat → Option Nat) : TodoOk r gA_d0 gA_d0 := TodoOk.it (by kernel_rfl)
theorem gA_d1_ok {l : List (Nat × Nat)} : TodoOk (ren 0 ([(0, 0), (1, 1), (2, 2), (3, 3), (4, 4), (6, 6), (7, 7), (8, 8), (9, 9)] ++ l)) gA_d1 gA_d1 := TodoOk.rf rfl (by kernel_rfl)
theorem gA_d1_ok0 : TodoOk (ren 0 [(0, 0), (1, 1), (2, 2), (3, 3), (4, 4), (6, 6), (7, 7), (8, 8), (9, 9)]) gA_d1 gA_d1 := TodoOk.rf rfl (by kernel_rfl)
theorem gB_d0_ok (r : Nat → Option Nat) : TodoOk r gB_d0 gB_d0 := TodoOk.it (by kernel_rfl)
theorem gB_d1_ok {l : List (Nat × Nat)} : TodoOk (ren 0 ([(0, 0), (1, 1), (2, 2), (3, 3), (4, 4), (6, 6), (7, 7), (8, 8), (9, 9), (60, 60), (61, 61), (63, 63)] ++ l)) gB_d1 gB_d1 := TodoOk.rf rfl (by kernel_rfl)
theorem gB_d1_ok0 : TodoOk (ren 0 [(0, 0), (1, 1), (2, 2), (3, 3), (4, 4), (6, 6), (7, 7), (8, 8), (9, 9), (60, 60), (61, 61), (63, 63)]) gB_d1 gB_d1 := TodoOk.rf rfl (by kernel_rfl)
theorem gB_d2_ok {l : List (Nat × Nat)} : TodoOk (ren 0 ([(0, 0), (1, 1), (2, 2), (3, 3), (4, 4), (6, 6), (7, 7), (8, 8), (9, 9), (60, 60), (61, 61), (63, 63)] ++ l)) gB_d2 gB_d2 := TodoOk.rf rfl (by kernel_rfl)
theorem gI_d0_ok (r : Nat → Option Nat) : TodoOk r gI_d0 gI_d0 := TodoOk.it (by kernel_rfl)
theorem gI_d1_ok {l : List (Nat × Nat)} : TodoOk (ren 0 ([(0, 0), (1, 1), (2, 2), (3, 3), (4, 4), (6, 6), (7, 7), (8, 8), (9, 9), (10, 10), (11, 11), (12, 12), (13, 13)] ++ l)) gI_d1 gI_d1 := TodoOk.rf rfl (by kernel_rfl)
theorem gI_d1_ok0 : TodoOk (ren 0 [(0, 0), (1, 1), (2, 2), (3, 3), (4, 4), (6, 6), (7, 7), (8, 8), (9, 9), (10, 10), (11, 11), (12, 12), (13, 13)]) gI_d1 gI_d1 := TodoOk.rf rfl (by kernel_rfl)
theorem gI_d2_ok {l : List (Nat × Nat)} : TodoOk (ren 0 ([(0, 0), (1, 1), (2, 2), (3, 3), (4, 4), (6, 6), (7, 7), (8, 8), (9, 9), (10, 10), (11, 11), (12, 12), (13, 13)] ++ l)) gI_d2 gI_d2 := TodoOk.rf rfl (by kernel_rfl)
theorem gA_good {A : SV → SMem → Prop} {j : Nat} {ts : Array Value} {h : Int} {up : Int} {Q : Array Value → Nat → Array Value → Prop} {fs : List SFr} {m : SMem} (H : ∀ zz n cs, Q zz n cs → Good Tryd.prog A 0 (gA_F j ts h up zz n cs) (gA_M j ts h up zz n cs)) (hb : gA_n j ts h up Q fs m) : Good Tryd.prog A 0 fs m := by
 unfold gA_n at hb
 iterate 14 (split at hb; rotate_left; exact hb.elim)
 exact Good.of_sub hb.2 (H _ _ _ hb.1)
theorem gB_good {A : SV → SMem → Prop} {j : Nat} {ts : Array Value} {h : Int} {up : Int} {r : Nat} {ks : Array Value} {Q : Int → Array Value → Nat → Array Value → Prop} {fs : List SFr} {m : SMem} (H : ∀ i zz n cs, Q i zz n cs → Good Tryd.prog A 0 (gB_F j ts h up r ks i zz n cs) (gB_M j ts h up r ks i zz n cs)) (hb : gB_n j ts h up r ks Q fs m) : Good Tryd.prog A 0 fs m := by
 unfold gB_n at hb
 iterate 19 (split at hb; rotate_left; exact hb.elim)
 exact Good.of_sub hb.2 (H _ _ _ _ hb.1)
theorem gI_good {A : SV → SMem → Prop} {ts : Array Value} {h : Int} {up : Int} {r : Nat} {ks : Array Value} {Q : Int → Array Value → Prop} {fs : List SFr} {m : SMem} (H : ∀ i zz, Q i zz → Good Tryd.prog A 0 (gI_F ts h up r ks i zz) (gI_M ts h up r ks i zz)) (hb : gI_n ts h up r ks Q fs m) : Good Tryd.prog A 0 fs m := by
 unfold gI_n at hb
 iterate 18 (split at hb; rotate_left; exact hb.elim)
 exact Good.of_sub hb.2 (H _ _ hb.1)
set_option maxRecDepth 100000
noncomputable def gV0_0 (ts : Array Value) : Array Value := Array.extract ts 0 64
noncomputable def gV0_1 (ts : Array Value) : Prop := Array.size ts = 448 ∧ Array.size ts = 448 ∧ True
noncomputable def gV0_2 (h : Int) : Prop := 0 ≤ h ∧ h < 4294967296
theorem gV0 (ts : Array Value) (h : Int) (up : Int) (r : Nat) (ks o : Array Value) (e : Int) (Q : Int → Array Value → Prop) : (gT0 ts h up).vc (retOk 0 [] (rgS o e) e0M) (gI_n ts h up r ks Q) =
  ((64 ≤ Array.size ts ∧ True) ∧ (BkOk (gV0_0 ts) ∧ (gV0_2 h) ∧ True) ∧ (((!goodB (gV0_0 ts) h) == false) = true → (64 ≤ Array.size ts ∧ True) ∧ (BkOk (gV0_0 ts) ∧ (0 ≤ up ∧ up < 4294967296) ∧ True) ∧ ((!goodB (gV0_0 ts) up) = true → (Array.size ts = 448 ∧ True) ∧ (gV0_1 ts) ∧ (Array.size ts = 448 ∧ True) ∧ o = ts ∧ e = 4 ∧ True) ∧ ((!goodB (gV0_0 ts) up) = false → (Array.size ts = 448 ∧ True) ∧ (FIn ts ∧ (gV0_2 h) ∧ True) ∧ (((rtF ts h != h) == false) = true → (Array.size ts = 448 ∧ True) ∧ (FIn ts ∧ (0 ≤ up ∧ up < 4294967296) ∧ True) ∧ (outF ts h up = true → (Array.size ts = 448 ∧ True) ∧ (gV0_1 ts) ∧ (Array.size ts = 448 ∧ True) ∧ o = ts ∧ e = 12 ∧ True) ∧ (outF ts h up = false → (Array.size ts = 448 ∧ True) ∧ (64 ≤ Array.size ts ∧ True) ∧ (BkOk (gV0_0 ts) ∧ (gV0_2 h) ∧ True) ∧ ((!goodB (gV0_0 ts) h) = true → (Array.size ts = 448 ∧ True) ∧ (FIn ts ∧ (gV0_2 h) ∧ (0 ≤ up ∧ up < 4294967296) ∧ True) ∧ (Array.size (raT ts h up) = 448 ∧ Array.size (raT ts h up) = 448 ∧ True) ∧ (Array.size (raT ts h up) = 448 ∧ True) ∧ o = raT ts h up ∧ e = raE ts h up ∧ True) ∧ ((!goodB (gV0_0 ts) h) = false → (Array.size ts = 448 ∧ True) ∧ (FIn ts ∧ (gV0_2 h) ∧ True) ∧ (Array.size ts = 448 ∧ True) ∧ (FIn ts ∧ (0 ≤ up ∧ up < 4294967296) ∧ True) ∧ (decide (ari .add .i64 (↑(depF ts h) : Int) (↑(depF ts up) : Int) > 6) = true → (Array.size ts = 448 ∧ True) ∧ (gV0_1 ts) ∧ (Array.size ts = 448 ∧ True) ∧ o = ts ∧ e = 8 ∧ True) ∧ (decide (ari .add .i64 (↑(depF ts h) : Int) (↑(depF ts up) : Int) > 6) = false → (Array.size ts = 448 ∧ True) ∧ (TbOk ts ∧ (gV0_2 h) ∧ True) ∧ (decide (List.length (kdF ts h) = 0) = true → (Array.size ts = 448 ∧ True) ∧ (FIn ts ∧ (gV0_2 h) ∧ (0 ≤ up ∧ up < 4294967296) ∧ True) ∧ (Array.size (raT ts h up) = 448 ∧ Array.size (raT ts h up) = 448 ∧ True) ∧ (Array.size (raT ts h up) = 448 ∧ True) ∧ o = raT ts h up ∧ e = raE ts h up ∧ True) ∧ (decide (List.length (kdF ts h) = 0) = false → (decide (ari .sub .i64 (↑(List.length (kdF ts h)) : Int) (1 : Int) ≥ 0) = true → Q (ari .sub .i64 (↑(List.length (kdF ts h)) : Int) (1 : Int)) zT ∧ cN ∧ TodoOk (ren 0 [(0, 0), (1, 1), (2, 2), (3, 3), (4, 4), (6, 6), (7, 7), (8, 8), (9, 9), (10, 10), (11, 11), (12, 12), (13, 13)]) gB_d0 gB_d0 ∧ ari .sub .i64 (↑(List.length (kdF ts h)) : Int) (1 : Int) = ari .sub .i64 (↑(List.length (kdF ts h)) : Int) (1 : Int) ∧ cN ∧ TodoOk (ren 0 [(0, 0), (1, 1), (2, 2), (3, 3), (4, 4), (6, 6), (7, 7), (8, 8), (9, 9), (10, 10), (11, 11), (12, 12), (13, 13)]) gI_d1 gI_d1 ∧ cN ∧ TodoOk (ren 0 [(0, 0), (1, 1), (2, 2), (3, 3), (4, 4), (6, 6), (7, 7), (8, 8), (9, 9), (10, 10), (11, 11), (12, 12), (13, 13)]) gA_d1 gA_d1 ∧ h = h ∧ 39 = 39 ∧ ts = ts ∧ 30 = 30 ∧ up = up ∧ 55 = 55 ∧ 68 = 68 ∧ r = List.length (kdF ts h) ∧ 68 = 68 ∧ 39 = 39 ∧ zT = zT ∧ 39 = 39 ∧ ts = ts ∧ 30 = 30 ∧ h = h ∧ 30 = 30 ∧ ks = u32s (kdF ts h) ∧ EqL gLp gLp ∧ h = h ∧ EqL wkLp wkLp ∧ True) ∧ (decide (ari .sub .i64 (↑(List.length (kdF ts h)) : Int) (1 : Int) ≥ 0) = false → (Array.size ts = 448 ∧ True) ∧ (FIn ts ∧ (gV0_2 h) ∧ (0 ≤ up ∧ up < 4294967296) ∧ True) ∧ (Array.size (raT ts h up) = 448 ∧ Array.size (raT ts h up) = 448 ∧ True) ∧ (Array.size (raT ts h up) = 448 ∧ True) ∧ o = raT ts h up ∧ e = raE ts h up ∧ True)))))) ∧ (((rtF ts h != h) == false) = false → (Array.size ts = 448 ∧ True) ∧ (gV0_1 ts) ∧ (Array.size ts = 448 ∧ True) ∧ o = ts ∧ e = 12 ∧ True))) ∧ (((!goodB (gV0_0 ts) h) == false) = false → (Array.size ts = 448 ∧ True) ∧ (gV0_1 ts) ∧ (Array.size ts = 448 ∧ True) ∧ o = ts ∧ e = 4 ∧ True)) := by kernel_rfl
theorem gVI (ts : Array Value) (h : Int) (up : Int) (r : Nat) (ks : Array Value) (i : Int) (zz : Array Value) (o : Array Value) (e : Int) (QA : Array Value → Nat → Array Value → Prop) (QB : Int → Array Value → Nat → Array Value → Prop) : (stepT Egn.go (run Egn 1000) 0 (gI_F ts h up r ks i zz) (gI_M ts h up r ks i zz)).vc (retOk 0 [] (rgS o e) e0M) (gAB 0 ts h up r ks QA QB) =
  (((0 ≤ i ∧ i < (↑r : Int)) ∧ True) ∧ (IsInt .u32 ks (0 + Int.toNat i * 1) ∧ True) ∧ (decide (ari .sub .i64 i 1 ≥ 0) = true → QB (ari .sub .i64 i 1) zz (1 : Nat) #[Value.int .u32 (intAt ks (0 + Int.toNat i * 1))] ∧ cN ∧ TodoOk (ren 0 [(0, 0), (1, 1), (2, 2), (3, 3), (4, 4), (6, 6), (7, 7), (8, 15), (9, 9), (60, 10), (61, 11), (63, 13), (20, 12)]) gB_d0 gB_d0 ∧ ari .sub .i64 i 1 = ari .sub .i64 i 1 ∧ cN ∧ TodoOk (ren 0 [(0, 0), (1, 1), (2, 2), (3, 3), (4, 4), (6, 6), (7, 7), (8, 15), (9, 9), (60, 10), (61, 11), (63, 13), (20, 12)]) gB_d1 gI_d1 ∧ cN ∧ TodoOk (ren 0 [(0, 0), (1, 1), (2, 2), (3, 3), (4, 4), (6, 6), (7, 7), (8, 15), (9, 9), (60, 10), (61, 11), (63, 13), (20, 12)]) gA_d1 gA_d1 ∧ h = h ∧ 39 = 39 ∧ ts = ts ∧ 30 = 30 ∧ up = up ∧ 55 = 55 ∧ 68 = 68 ∧ (1 : Nat) = 1 ∧ 68 = 68 ∧ r = r ∧ 39 = 39 ∧ zz = zz ∧ 39 = 39 ∧ ts = ts ∧ 30 = 30 ∧ #[Value.int .u32 (intAt ks (0 + Int.toNat i * 1))] = #[Value.int .u32 (intAt ks (0 + Int.toNat i * 1))] ∧ 30 = 30 ∧ ks = ks ∧ EqL gLp gLp ∧ h = h ∧ EqL wkLp wkLp ∧ True) ∧ (decide (ari .sub .i64 i 1 ≥ 0) = false → QA zz (1 : Nat) #[Value.int .u32 (intAt ks (0 + Int.toNat i * 1))] ∧ cN ∧ TodoOk (ren 0 [(0, 0), (1, 1), (2, 2), (3, 3), (4, 4), (6, 6), (7, 7), (8, 15), (9, 9), (20, 12)]) gA_d0 gA_d0 ∧ cN ∧ TodoOk (ren 0 [(0, 0), (1, 1), (2, 2), (3, 3), (4, 4), (6, 6), (7, 7), (8, 15), (9, 9), (20, 12)]) gA_d1 gA_d1 ∧ h = h ∧ 39 = 39 ∧ ts = ts ∧ 30 = 30 ∧ up = up ∧ 55 = 55 ∧ 68 = 68 ∧ (1 : Nat) = 1 ∧ 39 = 39 ∧ zz = zz ∧ 39 = 39 ∧ ts = ts ∧ 30 = 30 ∧ #[Value.int .u32 (intAt ks (0 + Int.toNat i * 1))] = #[Value.int .u32 (intAt ks (0 + Int.toNat i * 1))] ∧ EqL gLp gLp ∧ h = h ∧ True)) := by kernel_rfl
set_option linter.unusedVariables false
def gVA_R (j : Nat) (ts : Array Value) (h : Int) (up : Int) (r : Nat) (ks : Array Value) (zz : Array Value) (n : Nat) (cs : Array Value) (o : Array Value) (e : Int) (QA : Array Value → Nat → Array Value → Prop) (QB : Int → Array Value → Nat → Array Value → Prop) : Prop :=
 (((0 ≤ ari .sub .i64 (↑n) 1 ∧ ari .sub .i64 (↑n) 1 < (↑n : Int)) ∧ True) ∧ (IsInt .u32 cs (0 + Int.toNat (ari .sub .i64 (↑n) 1) * 1) ∧ True) ∧ (0 ≤ ari .sub .i64 (↑n) 1 ∧ Int.toNat (ari .sub .i64 (↑n) 1) ≤ n ∧ True) ∧ (Array.size ts = 448 ∧ True) ∧ (FIn ts ∧ (0 ≤ intAt cs (0 + Int.toNat (ari .sub .i64 (↑n) 1) * 1) ∧ intAt cs (0 + Int.toNat (ari .sub .i64 (↑n) 1) * 1) < 4294967296) ∧ True) ∧ (Array.size ts = 448 ∧ True) ∧ (FIn ts ∧ (0 ≤ up ∧ up < 4294967296) ∧ True) ∧ (decide (ari .add .i64 (↑(depF ts (intAt cs (0 + Int.toNat (ari .sub .i64 (↑n) 1) * 1))) : Int) (↑(depF ts up) : Int) > 6) = true → (Array.size ts = 448 ∧ True) ∧ (Array.size ts = 448 ∧ Array.size ts = Array.size zz ∧ True) ∧ (Array.size ts = 448 ∧ True) ∧ o = ts ∧ e = 8 ∧ True) ∧ (decide (ari .add .i64 (↑(depF ts (intAt cs (0 + Int.toNat (ari .sub .i64 (↑n) 1) * 1))) : Int) (↑(depF ts up) : Int) > 6) = false → (Array.size ts = 448 ∧ True) ∧ (TbOk ts ∧ (0 ≤ intAt cs (0 + Int.toNat (ari .sub .i64 (↑n) 1) * 1) ∧ intAt cs (0 + Int.toNat (ari .sub .i64 (↑n) 1) * 1) < 4294967296) ∧ True) ∧ (decide (List.length (kdF ts (intAt cs (0 + Int.toNat (ari .sub .i64 (↑n) 1) * 1))) = 0) = true → (decide ((↑(Int.toNat (ari .sub .i64 (↑n) 1)) : Int) > 0) = true → QA zz (Int.toNat (ari .sub .i64 (↑n) 1)) cs ∧ cN ∧ TodoOk (ren 0 ([(0, 0), (1, 1), (2, 2), (3, 3), (4, 4), (6, 6), (7, 7), (8, 8), (9, 9)] ++ (20 + j, 61) :: idZ j)) gA_d0 gA_d0 ∧ cN ∧ TodoOk (ren 0 ([(0, 0), (1, 1), (2, 2), (3, 3), (4, 4), (6, 6), (7, 7), (8, 8), (9, 9)] ++ (20 + j, 61) :: idZ j)) gA_d1 gA_d1 ∧ h = h ∧ 39 = 39 ∧ ts = ts ∧ 30 = 30 ∧ up = up ∧ 55 = 55 ∧ 68 = 68 ∧ Int.toNat (ari .sub .i64 (↑n) 1) = Int.toNat (ari .sub .i64 (↑n) 1) ∧ 39 = 39 ∧ zz = zz ∧ 39 = 39 ∧ ts = ts ∧ 30 = 30 ∧ cs = cs ∧ EqL gLp gLp ∧ h = h ∧ True) ∧ (decide ((↑(Int.toNat (ari .sub .i64 (↑n) 1)) : Int) > 0) = false → (Array.size ts = 448 ∧ True) ∧ (FIn ts ∧ (0 ≤ h ∧ h < 4294967296) ∧ (0 ≤ up ∧ up < 4294967296) ∧ True) ∧ (Array.size (raT ts h up) = 448 ∧ Array.size (raT ts h up) = Array.size zz ∧ True) ∧ (Array.size (raT ts h up) = 448 ∧ True) ∧ o = raT ts h up ∧ e = raE ts h up ∧ True)) ∧ (decide (List.length (kdF ts (intAt cs (0 + Int.toNat (ari .sub .i64 (↑n) 1) * 1))) = 0) = false → (decide (ari .sub .i64 (↑(List.length (kdF ts (intAt cs (0 + Int.toNat (ari .sub .i64 (↑n) 1) * 1)))) : Int) (1 : Int) ≥ 0) = true → QB (ari .sub .i64 (↑(List.length (kdF ts (intAt cs (0 + Int.toNat (ari .sub .i64 (↑n) 1) * 1)))) : Int) (1 : Int)) zz (Int.toNat (ari .sub .i64 (↑n) 1)) cs ∧ cN ∧ TodoOk (ren 0 ([(0, 0), (1, 1), (2, 2), (3, 3), (4, 4), (6, 6), (7, 7), (8, 8), (9, 9), (60, 60), (61, 61), (63, 63)] ++ (20 + j, 62) :: idZ j)) gB_d0 gB_d0 ∧ ari .sub .i64 (↑(List.length (kdF ts (intAt cs (0 + Int.toNat (ari .sub .i64 (↑n) 1) * 1)))) : Int) (1 : Int) = ari .sub .i64 (↑(List.length (kdF ts (intAt cs (0 + Int.toNat (ari .sub .i64 (↑n) 1) * 1)))) : Int) (1 : Int) ∧ cN ∧ TodoOk (ren 0 ([(0, 0), (1, 1), (2, 2), (3, 3), (4, 4), (6, 6), (7, 7), (8, 8), (9, 9), (60, 60), (61, 61), (63, 63)] ++ (20 + j, 62) :: idZ j)) gB_d1 gB_d1 ∧ cN ∧ TodoOk (ren 0 ([(0, 0), (1, 1), (2, 2), (3, 3), (4, 4), (6, 6), (7, 7), (8, 8), (9, 9), (60, 60), (61, 61), (63, 63)] ++ (20 + j, 62) :: idZ j)) gA_d1 gA_d1 ∧ h = h ∧ 39 = 39 ∧ ts = ts ∧ 30 = 30 ∧ up = up ∧ 55 = 55 ∧ 68 = 68 ∧ Int.toNat (ari .sub .i64 (↑n) 1) = Int.toNat (ari .sub .i64 (↑n) 1) ∧ 68 = 68 ∧ r = List.length (kdF ts (intAt cs (0 + Int.toNat (ari .sub .i64 (↑n) 1) * 1))) ∧ 39 = 39 ∧ zz = zz ∧ 39 = 39 ∧ ts = ts ∧ 30 = 30 ∧ cs = cs ∧ 30 = 30 ∧ ks = u32s (kdF ts (intAt cs (0 + Int.toNat (ari .sub .i64 (↑n) 1) * 1))) ∧ EqL gLp gLp ∧ h = h ∧ EqL wkLp wkLp ∧ True) ∧ (decide (ari .sub .i64 (↑(List.length (kdF ts (intAt cs (0 + Int.toNat (ari .sub .i64 (↑n) 1) * 1)))) : Int) (1 : Int) ≥ 0) = false → (decide ((↑(Int.toNat (ari .sub .i64 (↑n) 1)) : Int) > 0) = true → QA zz (Int.toNat (ari .sub .i64 (↑n) 1)) cs ∧ cN ∧ TodoOk (ren 0 ([(0, 0), (1, 1), (2, 2), (3, 3), (4, 4), (6, 6), (7, 7), (8, 8), (9, 9)] ++ (20 + j, 62) :: idZ j)) gA_d0 gA_d0 ∧ cN ∧ TodoOk (ren 0 ([(0, 0), (1, 1), (2, 2), (3, 3), (4, 4), (6, 6), (7, 7), (8, 8), (9, 9)] ++ (20 + j, 62) :: idZ j)) gA_d1 gA_d1 ∧ h = h ∧ 39 = 39 ∧ ts = ts ∧ 30 = 30 ∧ up = up ∧ 55 = 55 ∧ 68 = 68 ∧ Int.toNat (ari .sub .i64 (↑n) 1) = Int.toNat (ari .sub .i64 (↑n) 1) ∧ 39 = 39 ∧ zz = zz ∧ 39 = 39 ∧ ts = ts ∧ 30 = 30 ∧ cs = cs ∧ EqL gLp gLp ∧ h = h ∧ True) ∧ (decide ((↑(Int.toNat (ari .sub .i64 (↑n) 1)) : Int) > 0) = false → (Array.size ts = 448 ∧ True) ∧ (FIn ts ∧ (0 ≤ h ∧ h < 4294967296) ∧ (0 ≤ up ∧ up < 4294967296) ∧ True) ∧ (Array.size (raT ts h up) = 448 ∧ Array.size (raT ts h up) = Array.size zz ∧ True) ∧ (Array.size (raT ts h up) = 448 ∧ True) ∧ o = raT ts h up ∧ e = raE ts h up ∧ True)))))
theorem gVA_all : ∀ j, j < 33 → ∀ (ts : Array Value) (h : Int) (up : Int) (r : Nat) (ks : Array Value) (zz : Array Value) (n : Nat) (cs : Array Value) (o : Array Value) (e : Int) (QA : Array Value → Nat → Array Value → Prop) (QB : Int → Array Value → Nat → Array Value → Prop), (stepT Egn.go (run Egn 1000) 0 (gA_F j ts h up zz n cs) (gA_M j ts h up zz n cs)).vc (retOk 0 [] (rgS o e) e0M) (gAB j ts h up r ks QA QB) = gVA_R j ts h up r ks zz n cs o e QA QB
 | 0, _ | 1, _ | 2, _ | 3, _ | 4, _ | 5, _ | 6, _ | 7, _ | 8, _ | 9, _ | 10, _ | 11, _ | 12, _ | 13, _ | 14, _ | 15, _ | 16, _ | 17, _ | 18, _ | 19, _ | 20, _ | 21, _ | 22, _ | 23, _ | 24, _ | 25, _ | 26, _ | 27, _ | 28, _ | 29, _ | 30, _ | 31, _ | 32, _ => fun ts h up r ks zz n cs o e QA QB => by kernel_rfl
 | n + 33, h => by omega
def gVB_R (j : Nat) (ts : Array Value) (h : Int) (up : Int) (r : Nat) (ks : Array Value) (i : Int) (zz : Array Value) (n : Nat) (cs : Array Value) (o : Array Value) (e : Int) (QA : Array Value → Nat → Array Value → Prop) (QB : Int → Array Value → Nat → Array Value → Prop) : Prop :=
 (((0 ≤ i ∧ i < (↑r : Int)) ∧ True) ∧ (IsInt .u32 ks (0 + Int.toNat i * 1) ∧ True) ∧ (((n + 1) * 4 ≤ 140737488355328 ∧ n + 1 ≤ 140737488355328) ∧ n * 1 ≤ Array.size cs ∧ True) ∧ (decide (ari .sub .i64 i 1 ≥ 0) = true → QB (ari .sub .i64 i 1) zz (n + 1) (Array.extract cs 0 (n * 1) ++ #[Value.int .u32 (intAt ks (0 + Int.toNat i * 1))]) ∧ cN ∧ TodoOk (ren 0 ([(0, 0), (1, 1), (2, 2), (3, 3), (4, 4), (6, 6), (7, 7), (8, 65), (9, 9), (60, 60), (61, 61), (63, 63)] ++ idZ (j + 1))) gB_d0 gB_d0 ∧ ari .sub .i64 i 1 = ari .sub .i64 i 1 ∧ cN ∧ TodoOk (ren 0 ([(0, 0), (1, 1), (2, 2), (3, 3), (4, 4), (6, 6), (7, 7), (8, 65), (9, 9), (60, 60), (61, 61), (63, 63)] ++ idZ (j + 1))) gB_d1 gB_d1 ∧ cN ∧ TodoOk (ren 0 ([(0, 0), (1, 1), (2, 2), (3, 3), (4, 4), (6, 6), (7, 7), (8, 65), (9, 9), (60, 60), (61, 61), (63, 63)] ++ idZ (j + 1))) gA_d1 gA_d1 ∧ h = h ∧ 39 = 39 ∧ ts = ts ∧ 30 = 30 ∧ up = up ∧ 55 = 55 ∧ 68 = 68 ∧ n + 1 = n + 1 ∧ 68 = 68 ∧ r = r ∧ 39 = 39 ∧ zz = zz ∧ 39 = 39 ∧ ts = ts ∧ 30 = 30 ∧ Array.extract cs 0 (n * 1) ++ #[Value.int .u32 (intAt ks (0 + Int.toNat i * 1))] = Array.extract cs 0 (n * 1) ++ #[Value.int .u32 (intAt ks (0 + Int.toNat i * 1))] ∧ 30 = 30 ∧ ks = ks ∧ EqL gLp gLp ∧ h = h ∧ EqL wkLp wkLp ∧ True) ∧ (decide (ari .sub .i64 i 1 ≥ 0) = false → (decide ((↑(n + 1) : Int) > 0) = true → QA zz (n + 1) (Array.extract cs 0 (n * 1) ++ #[Value.int .u32 (intAt ks (0 + Int.toNat i * 1))]) ∧ cN ∧ TodoOk (ren 0 ([(0, 0), (1, 1), (2, 2), (3, 3), (4, 4), (6, 6), (7, 7), (8, 65), (9, 9)] ++ idZ (j + 1))) gA_d0 gA_d0 ∧ cN ∧ TodoOk (ren 0 ([(0, 0), (1, 1), (2, 2), (3, 3), (4, 4), (6, 6), (7, 7), (8, 65), (9, 9)] ++ idZ (j + 1))) gA_d1 gA_d1 ∧ h = h ∧ 39 = 39 ∧ ts = ts ∧ 30 = 30 ∧ up = up ∧ 55 = 55 ∧ 68 = 68 ∧ n + 1 = n + 1 ∧ 39 = 39 ∧ zz = zz ∧ 39 = 39 ∧ ts = ts ∧ 30 = 30 ∧ Array.extract cs 0 (n * 1) ++ #[Value.int .u32 (intAt ks (0 + Int.toNat i * 1))] = Array.extract cs 0 (n * 1) ++ #[Value.int .u32 (intAt ks (0 + Int.toNat i * 1))] ∧ EqL gLp gLp ∧ h = h ∧ True) ∧ (decide ((↑(n + 1) : Int) > 0) = false → (Array.size ts = 448 ∧ True) ∧ (FIn ts ∧ (0 ≤ h ∧ h < 4294967296) ∧ (0 ≤ up ∧ up < 4294967296) ∧ True) ∧ (Array.size (raT ts h up) = 448 ∧ Array.size (raT ts h up) = Array.size zz ∧ True) ∧ (Array.size (raT ts h up) = 448 ∧ True) ∧ o = raT ts h up ∧ e = raE ts h up ∧ True)))
theorem gVB_all : ∀ j, j < 33 → ∀ (ts : Array Value) (h : Int) (up : Int) (r : Nat) (ks : Array Value) (i : Int) (zz : Array Value) (n : Nat) (cs : Array Value) (o : Array Value) (e : Int) (QA : Array Value → Nat → Array Value → Prop) (QB : Int → Array Value → Nat → Array Value → Prop), (stepT Egn.go (run Egn 1000) 0 (gB_F j ts h up r ks i zz n cs) (gB_M j ts h up r ks i zz n cs)).vc (retOk 0 [] (rgS o e) e0M) (gAB j ts h up r ks QA QB) = gVB_R j ts h up r ks i zz n cs o e QA QB
 | 0, _ | 1, _ | 2, _ | 3, _ | 4, _ | 5, _ | 6, _ | 7, _ | 8, _ | 9, _ | 10, _ | 11, _ | 12, _ | 13, _ | 14, _ | 15, _ | 16, _ | 17, _ | 18, _ | 19, _ | 20, _ | 21, _ | 22, _ | 23, _ | 24, _ | 25, _ | 26, _ | 27, _ | 28, _ | 29, _ | 30, _ | 31, _ | 32, _ => fun ts h up r ks i zz n cs o e QA QB => by kernel_rfl
 | n + 33, h => by omega
set_option maxRecDepth 100000
theorem cV0 (ts : Array Value) (h : Int) (u0 : Array Value) (r : Nat) (ks o : Array Value) (e : Int) (Q : Int → Array Value → Array Value → Prop) : (cT0 ts h).vc (retOk 0 [] (rgS o e) e0M) (cI_n ts h u0 r ks Q) =
  ((Array.size ts = 448 ∧ True) ∧ (FIn ts ∧ (0 ≤ h ∧ h < 4294967296) ∧ ((0 : Int) ≤ 0 ∧ (0 : Int) < 4294967296) ∧ True) ∧ (Array.size (raT ts h 0) = 448 ∧ Array.size (raT ts h 0) = 448 ∧ True) ∧ ((raE ts h (0 : Int) != 0) = true → (Array.size ts = 448 ∧ True) ∧ (Array.size ts = 448 ∧ Array.size ts = 448 ∧ True) ∧ (Array.size ts = 448 ∧ True) ∧ o = ts ∧ e = raE ts h (0 : Int) ∧ True) ∧ ((raE ts h (0 : Int) != 0) = false → (Array.size (raT ts h 0) = 448 ∧ True) ∧ (64 ≤ Array.size (raT ts h 0) ∧ True) ∧ (BkOk (Array.extract (raT ts h 0) 0 (64 : Nat)) ∧ (0 ≤ h ∧ h < 4294967296) ∧ True) ∧ ((!goodB (Array.extract (raT ts h 0) 0 (64 : Nat)) h) = true → (Array.size (raT ts h 0) = 448 ∧ True) ∧ (Array.size (raT ts h 0) = 448 ∧ Array.size (raT ts h 0) = 448 ∧ True) ∧ (Array.size (raT ts h 0) = 448 ∧ True) ∧ o = raT ts h 0 ∧ e = 0 ∧ True) ∧ ((!goodB (Array.extract (raT ts h 0) 0 (64 : Nat)) h) = false → (Array.size (raT ts h 0) = 448 ∧ True) ∧ (TbOk (raT ts h 0) ∧ gdF (raT ts h 0) h = true ∧ FIn ts ∧ (0 ≤ h ∧ h < 4294967296) ∧ True) ∧ (Array.size (emT (raT ts h 0) ts h h) = 448 ∧ Array.size (emT (raT ts h 0) ts h h) = Array.size (raT ts h 0) ∧ True) ∧ (Array.size (raT ts h 0) = 448 ∧ True) ∧ (TbOk (raT ts h 0) ∧ (0 ≤ h ∧ h < 4294967296) ∧ True) ∧ (decide (List.length (kdF (raT ts h 0) h) = 0) = true → (Array.size (emT (raT ts h 0) ts h h) = 448 ∧ True) ∧ (Array.size (emT (raT ts h 0) ts h h) = 448 ∧ Array.size (emT (raT ts h 0) ts h h) = 448 ∧ True) ∧ (Array.size (emT (raT ts h 0) ts h h) = 448 ∧ True) ∧ o = emT (raT ts h 0) ts h h ∧ e = 0 ∧ True) ∧ (decide (List.length (kdF (raT ts h 0) h) = 0) = false → (decide (ari .sub .i64 (↑(List.length (kdF (raT ts h 0) h)) : Int) (1 : Int) ≥ 0) = true → Q (ari .sub .i64 (↑(List.length (kdF (raT ts h 0) h)) : Int) (1 : Int)) (emT (raT ts h 0) ts h h) zT ∧ cN ∧ TodoOk (ren 0 [(0, 0), (1, 1), (2, 2), (3, 3), (4, 4), (5, 5), (7, 7), (8, 8), (9, 9), (10, 10), (11, 11), (12, 12), (13, 13), (14, 14)]) cB_d0 cB_d0 ∧ ari .sub .i64 (↑(List.length (kdF (raT ts h 0) h)) : Int) (1 : Int) = ari .sub .i64 (↑(List.length (kdF (raT ts h 0) h)) : Int) (1 : Int) ∧ cN ∧ TodoOk (ren 0 [(0, 0), (1, 1), (2, 2), (3, 3), (4, 4), (5, 5), (7, 7), (8, 8), (9, 9), (10, 10), (11, 11), (12, 12), (13, 13), (14, 14)]) cI_d1 cI_d1 ∧ cN ∧ TodoOk (ren 0 [(0, 0), (1, 1), (2, 2), (3, 3), (4, 4), (5, 5), (7, 7), (8, 8), (9, 9), (10, 10), (11, 11), (12, 12), (13, 13), (14, 14)]) cA_d1 cA_d1 ∧ 39 = 39 ∧ ts = ts ∧ 30 = 30 ∧ h = h ∧ 39 = 39 ∧ emT (raT ts h 0) ts h h = emT (raT ts h 0) ts h h ∧ 30 = 30 ∧ ks = u32s (kdF (raT ts h 0) h) ∧ 39 = 39 ∧ u0 = raT ts h 0 ∧ 30 = 30 ∧ h = h ∧ 39 = 39 ∧ zT = zT ∧ 81 = 81 ∧ Fn.func 44 = Fn.func 44 ∧ 68 = 68 ∧ r = List.length (kdF (raT ts h 0) h) ∧ 68 = 68 ∧ EqL cLp cLp ∧ EqL wkLp wkLp ∧ True) ∧ (decide (ari .sub .i64 (↑(List.length (kdF (raT ts h 0) h)) : Int) (1 : Int) ≥ 0) = false → (Array.size (emT (raT ts h 0) ts h h) = 448 ∧ True) ∧ (Array.size (emT (raT ts h 0) ts h h) = 448 ∧ Array.size (emT (raT ts h 0) ts h h) = 448 ∧ True) ∧ (Array.size (emT (raT ts h 0) ts h h) = 448 ∧ True) ∧ o = emT (raT ts h 0) ts h h ∧ e = 0 ∧ True))))) := by kernel_rfl
theorem cVI (ts : Array Value) (h : Int) (u0 : Array Value) (r : Nat) (ks : Array Value) (i : Int) (us : Array Value) (zz : Array Value) (o : Array Value) (e : Int) (QA : Array Value → Array Value → Nat → Array Value → Prop) (QB : Int → Array Value → Array Value → Nat → Array Value → Prop) : (stepT Ecn.go (run Ecn 1000) 0 (cI_F ts h u0 r ks i us zz) (cI_M ts h u0 r ks i us zz)).vc (retOk 0 [] (rgS o e) e0M) (cAB 0 ts h u0 r ks QA QB) =
  (((0 ≤ i ∧ i < (↑r : Int)) ∧ True) ∧ (IsInt .u32 ks (0 + Int.toNat i * 1) ∧ True) ∧ (decide (ari .sub .i64 i 1 ≥ 0) = true → QB (ari .sub .i64 i 1) us zz (1 : Nat) #[Value.int .u32 (intAt ks (0 + Int.toNat i * 1))] ∧ cN ∧ TodoOk (ren 0 [(0, 0), (1, 1), (2, 2), (3, 3), (4, 4), (5, 5), (7, 7), (8, 8), (9, 16), (10, 10), (60, 11), (61, 12), (63, 14), (20, 13)]) cB_d0 cB_d0 ∧ ari .sub .i64 i 1 = ari .sub .i64 i 1 ∧ cN ∧ TodoOk (ren 0 [(0, 0), (1, 1), (2, 2), (3, 3), (4, 4), (5, 5), (7, 7), (8, 8), (9, 16), (10, 10), (60, 11), (61, 12), (63, 14), (20, 13)]) cB_d1 cI_d1 ∧ cN ∧ TodoOk (ren 0 [(0, 0), (1, 1), (2, 2), (3, 3), (4, 4), (5, 5), (7, 7), (8, 8), (9, 16), (10, 10), (60, 11), (61, 12), (63, 14), (20, 13)]) cA_d1 cA_d1 ∧ 39 = 39 ∧ ts = ts ∧ 30 = 30 ∧ h = h ∧ 39 = 39 ∧ us = us ∧ 39 = 39 ∧ u0 = u0 ∧ 30 = 30 ∧ #[Value.int .u32 (intAt ks (0 + Int.toNat i * 1))] = #[Value.int .u32 (intAt ks (0 + Int.toNat i * 1))] ∧ 68 = 68 ∧ r = r ∧ 39 = 39 ∧ zz = zz ∧ 81 = 81 ∧ Fn.func 44 = Fn.func 44 ∧ 30 = 30 ∧ ks = ks ∧ 68 = 68 ∧ (1 : Nat) = 1 ∧ EqL cLp cLp ∧ EqL wkLp wkLp ∧ True) ∧ (decide (ari .sub .i64 i 1 ≥ 0) = false → QA us zz (1 : Nat) #[Value.int .u32 (intAt ks (0 + Int.toNat i * 1))] ∧ cN ∧ TodoOk (ren 0 [(0, 0), (1, 1), (2, 2), (3, 3), (4, 4), (5, 5), (7, 7), (8, 8), (9, 16), (10, 10), (20, 13)]) cA_d0 cA_d0 ∧ cN ∧ TodoOk (ren 0 [(0, 0), (1, 1), (2, 2), (3, 3), (4, 4), (5, 5), (7, 7), (8, 8), (9, 16), (10, 10), (20, 13)]) cA_d1 cA_d1 ∧ 39 = 39 ∧ ts = ts ∧ 30 = 30 ∧ h = h ∧ 39 = 39 ∧ us = us ∧ 39 = 39 ∧ u0 = u0 ∧ 30 = 30 ∧ #[Value.int .u32 (intAt ks (0 + Int.toNat i * 1))] = #[Value.int .u32 (intAt ks (0 + Int.toNat i * 1))] ∧ 39 = 39 ∧ zz = zz ∧ 81 = 81 ∧ Fn.func 44 = Fn.func 44 ∧ 68 = 68 ∧ (1 : Nat) = 1 ∧ EqL cLp cLp ∧ True)) := by kernel_rfl
set_option linter.unusedVariables false
def cVA_R (j : Nat) (ts : Array Value) (h : Int) (u0 : Array Value) (r : Nat) (ks : Array Value) (us : Array Value) (zz : Array Value) (n : Nat) (cs : Array Value) (o : Array Value) (e : Int) (QA : Array Value → Array Value → Nat → Array Value → Prop) (QB : Int → Array Value → Array Value → Nat → Array Value → Prop) : Prop :=
 (((0 ≤ ari .sub .i64 (↑n) 1 ∧ ari .sub .i64 (↑n) 1 < (↑n : Int)) ∧ True) ∧ (IsInt .u32 cs (0 + Int.toNat (ari .sub .i64 (↑n) 1) * 1) ∧ True) ∧ (0 ≤ ari .sub .i64 (↑n) 1 ∧ Int.toNat (ari .sub .i64 (↑n) 1) ≤ n ∧ True) ∧ (Array.size us = 448 ∧ True) ∧ (TbOk us ∧ gdF us (intAt cs (0 + Int.toNat (ari .sub .i64 (↑n) 1) * 1)) = true ∧ FIn ts ∧ (0 ≤ h ∧ h < 4294967296) ∧ True) ∧ (Array.size (emT us ts h (intAt cs (0 + Int.toNat (ari .sub .i64 (↑n) 1) * 1))) = 448 ∧ Array.size (emT us ts h (intAt cs (0 + Int.toNat (ari .sub .i64 (↑n) 1) * 1))) = Array.size us ∧ True) ∧ (Array.size u0 = 448 ∧ True) ∧ (TbOk u0 ∧ (0 ≤ intAt cs (0 + Int.toNat (ari .sub .i64 (↑n) 1) * 1) ∧ intAt cs (0 + Int.toNat (ari .sub .i64 (↑n) 1) * 1) < 4294967296) ∧ True) ∧ (decide (List.length (kdF u0 (intAt cs (0 + Int.toNat (ari .sub .i64 (↑n) 1) * 1))) = 0) = true → (decide ((↑(Int.toNat (ari .sub .i64 (↑n) 1)) : Int) > 0) = true → QA (emT us ts h (intAt cs (0 + Int.toNat (ari .sub .i64 (↑n) 1) * 1))) zz (Int.toNat (ari .sub .i64 (↑n) 1)) cs ∧ cN ∧ TodoOk (ren 0 ([(0, 0), (1, 1), (2, 2), (3, 3), (4, 4), (5, 5), (7, 7), (8, 8), (9, 9), (10, 10)] ++ (20 + j, 61) :: idZ j)) cA_d0 cA_d0 ∧ cN ∧ TodoOk (ren 0 ([(0, 0), (1, 1), (2, 2), (3, 3), (4, 4), (5, 5), (7, 7), (8, 8), (9, 9), (10, 10)] ++ (20 + j, 61) :: idZ j)) cA_d1 cA_d1 ∧ 39 = 39 ∧ ts = ts ∧ 30 = 30 ∧ h = h ∧ 39 = 39 ∧ emT us ts h (intAt cs (0 + Int.toNat (ari .sub .i64 (↑n) 1) * 1)) = emT us ts h (intAt cs (0 + Int.toNat (ari .sub .i64 (↑n) 1) * 1)) ∧ 39 = 39 ∧ u0 = u0 ∧ 30 = 30 ∧ cs = cs ∧ 39 = 39 ∧ zz = zz ∧ 81 = 81 ∧ Fn.func 44 = Fn.func 44 ∧ 68 = 68 ∧ Int.toNat (ari .sub .i64 (↑n) 1) = Int.toNat (ari .sub .i64 (↑n) 1) ∧ EqL cLp cLp ∧ True) ∧ (decide ((↑(Int.toNat (ari .sub .i64 (↑n) 1)) : Int) > 0) = false → (Array.size (emT us ts h (intAt cs (0 + Int.toNat (ari .sub .i64 (↑n) 1) * 1))) = 448 ∧ True) ∧ (Array.size (emT us ts h (intAt cs (0 + Int.toNat (ari .sub .i64 (↑n) 1) * 1))) = 448 ∧ Array.size (emT us ts h (intAt cs (0 + Int.toNat (ari .sub .i64 (↑n) 1) * 1))) = Array.size zz ∧ True) ∧ (Array.size (emT us ts h (intAt cs (0 + Int.toNat (ari .sub .i64 (↑n) 1) * 1))) = 448 ∧ True) ∧ o = emT us ts h (intAt cs (0 + Int.toNat (ari .sub .i64 (↑n) 1) * 1)) ∧ e = 0 ∧ True)) ∧ (decide (List.length (kdF u0 (intAt cs (0 + Int.toNat (ari .sub .i64 (↑n) 1) * 1))) = 0) = false → (decide (ari .sub .i64 (↑(List.length (kdF u0 (intAt cs (0 + Int.toNat (ari .sub .i64 (↑n) 1) * 1)))) : Int) (1 : Int) ≥ 0) = true → QB (ari .sub .i64 (↑(List.length (kdF u0 (intAt cs (0 + Int.toNat (ari .sub .i64 (↑n) 1) * 1)))) : Int) (1 : Int)) (emT us ts h (intAt cs (0 + Int.toNat (ari .sub .i64 (↑n) 1) * 1))) zz (Int.toNat (ari .sub .i64 (↑n) 1)) cs ∧ cN ∧ TodoOk (ren 0 ([(0, 0), (1, 1), (2, 2), (3, 3), (4, 4), (5, 5), (7, 7), (8, 8), (9, 9), (10, 10), (60, 60), (61, 61), (63, 63)] ++ (20 + j, 62) :: idZ j)) cB_d0 cB_d0 ∧ ari .sub .i64 (↑(List.length (kdF u0 (intAt cs (0 + Int.toNat (ari .sub .i64 (↑n) 1) * 1)))) : Int) (1 : Int) = ari .sub .i64 (↑(List.length (kdF u0 (intAt cs (0 + Int.toNat (ari .sub .i64 (↑n) 1) * 1)))) : Int) (1 : Int) ∧ cN ∧ TodoOk (ren 0 ([(0, 0), (1, 1), (2, 2), (3, 3), (4, 4), (5, 5), (7, 7), (8, 8), (9, 9), (10, 10), (60, 60), (61, 61), (63, 63)] ++ (20 + j, 62) :: idZ j)) cB_d1 cB_d1 ∧ cN ∧ TodoOk (ren 0 ([(0, 0), (1, 1), (2, 2), (3, 3), (4, 4), (5, 5), (7, 7), (8, 8), (9, 9), (10, 10), (60, 60), (61, 61), (63, 63)] ++ (20 + j, 62) :: idZ j)) cA_d1 cA_d1 ∧ 39 = 39 ∧ ts = ts ∧ 30 = 30 ∧ h = h ∧ 39 = 39 ∧ emT us ts h (intAt cs (0 + Int.toNat (ari .sub .i64 (↑n) 1) * 1)) = emT us ts h (intAt cs (0 + Int.toNat (ari .sub .i64 (↑n) 1) * 1)) ∧ 39 = 39 ∧ u0 = u0 ∧ 30 = 30 ∧ cs = cs ∧ 68 = 68 ∧ r = List.length (kdF u0 (intAt cs (0 + Int.toNat (ari .sub .i64 (↑n) 1) * 1))) ∧ 39 = 39 ∧ zz = zz ∧ 81 = 81 ∧ Fn.func 44 = Fn.func 44 ∧ 30 = 30 ∧ ks = u32s (kdF u0 (intAt cs (0 + Int.toNat (ari .sub .i64 (↑n) 1) * 1))) ∧ 68 = 68 ∧ Int.toNat (ari .sub .i64 (↑n) 1) = Int.toNat (ari .sub .i64 (↑n) 1) ∧ EqL cLp cLp ∧ EqL wkLp wkLp ∧ True) ∧ (decide (ari .sub .i64 (↑(List.length (kdF u0 (intAt cs (0 + Int.toNat (ari .sub .i64 (↑n) 1) * 1)))) : Int) (1 : Int) ≥ 0) = false → (decide ((↑(Int.toNat (ari .sub .i64 (↑n) 1)) : Int) > 0) = true → QA (emT us ts h (intAt cs (0 + Int.toNat (ari .sub .i64 (↑n) 1) * 1))) zz (Int.toNat (ari .sub .i64 (↑n) 1)) cs ∧ cN ∧ TodoOk (ren 0 ([(0, 0), (1, 1), (2, 2), (3, 3), (4, 4), (5, 5), (7, 7), (8, 8), (9, 9), (10, 10)] ++ (20 + j, 62) :: idZ j)) cA_d0 cA_d0 ∧ cN ∧ TodoOk (ren 0 ([(0, 0), (1, 1), (2, 2), (3, 3), (4, 4), (5, 5), (7, 7), (8, 8), (9, 9), (10, 10)] ++ (20 + j, 62) :: idZ j)) cA_d1 cA_d1 ∧ 39 = 39 ∧ ts = ts ∧ 30 = 30 ∧ h = h ∧ 39 = 39 ∧ emT us ts h (intAt cs (0 + Int.toNat (ari .sub .i64 (↑n) 1) * 1)) = emT us ts h (intAt cs (0 + Int.toNat (ari .sub .i64 (↑n) 1) * 1)) ∧ 39 = 39 ∧ u0 = u0 ∧ 30 = 30 ∧ cs = cs ∧ 39 = 39 ∧ zz = zz ∧ 81 = 81 ∧ Fn.func 44 = Fn.func 44 ∧ 68 = 68 ∧ Int.toNat (ari .sub .i64 (↑n) 1) = Int.toNat (ari .sub .i64 (↑n) 1) ∧ EqL cLp cLp ∧ True) ∧ (decide ((↑(Int.toNat (ari .sub .i64 (↑n) 1)) : Int) > 0) = false → (Array.size (emT us ts h (intAt cs (0 + Int.toNat (ari .sub .i64 (↑n) 1) * 1))) = 448 ∧ True) ∧ (Array.size (emT us ts h (intAt cs (0 + Int.toNat (ari .sub .i64 (↑n) 1) * 1))) = 448 ∧ Array.size (emT us ts h (intAt cs (0 + Int.toNat (ari .sub .i64 (↑n) 1) * 1))) = Array.size zz ∧ True) ∧ (Array.size (emT us ts h (intAt cs (0 + Int.toNat (ari .sub .i64 (↑n) 1) * 1))) = 448 ∧ True) ∧ o = emT us ts h (intAt cs (0 + Int.toNat (ari .sub .i64 (↑n) 1) * 1)) ∧ e = 0 ∧ True))))
theorem cVA_all : ∀ j, j < 33 → ∀ (ts : Array Value) (h : Int) (u0 : Array Value) (r : Nat) (ks : Array Value) (us : Array Value) (zz : Array Value) (n : Nat) (cs : Array Value) (o : Array Value) (e : Int) (QA : Array Value → Array Value → Nat → Array Value → Prop) (QB : Int → Array Value → Array Value → Nat → Array Value → Prop), (stepT Ecn.go (run Ecn 1000) 0 (cA_F j ts h u0 us zz n cs) (cA_M j ts h u0 us zz n cs)).vc (retOk 0 [] (rgS o e) e0M) (cAB j ts h u0 r ks QA QB) = cVA_R j ts h u0 r ks us zz n cs o e QA QB
 | 0, _ | 1, _ | 2, _ | 3, _ | 4, _ | 5, _ | 6, _ | 7, _ | 8, _ | 9, _ | 10, _ | 11, _ | 12, _ | 13, _ | 14, _ | 15, _ | 16, _ | 17, _ | 18, _ | 19, _ | 20, _ | 21, _ | 22, _ | 23, _ | 24, _ | 25, _ | 26, _ | 27, _ | 28, _ | 29, _ | 30, _ | 31, _ | 32, _ => fun ts h u0 r ks us zz n cs o e QA QB => by kernel_rfl
 | n + 33, h => by omega
def cVB_R (j : Nat) (ts : Array Value) (h : Int) (u0 : Array Value) (r : Nat) (ks : Array Value) (i : Int) (us : Array Value) (zz : Array Value) (n : Nat) (cs : Array Value) (o : Array Value) (e : Int) (QA : Array Value → Array Value → Nat → Array Value → Prop) (QB : Int → Array Value → Array Value → Nat → Array Value → Prop) : Prop :=
 (((0 ≤ i ∧ i < (↑r : Int)) ∧ True) ∧ (IsInt .u32 ks (0 + Int.toNat i * 1) ∧ True) ∧ (((n + 1) * 4 ≤ 140737488355328 ∧ n + 1 ≤ 140737488355328) ∧ n * 1 ≤ Array.size cs ∧ True) ∧ (decide (ari .sub .i64 i 1 ≥ 0) = true → QB (ari .sub .i64 i 1) us zz (n + 1) (Array.extract cs 0 (n * 1) ++ #[Value.int .u32 (intAt ks (0 + Int.toNat i * 1))]) ∧ cN ∧ TodoOk (ren 0 ([(0, 0), (1, 1), (2, 2), (3, 3), (4, 4), (5, 5), (7, 7), (8, 8), (9, 65), (10, 10), (60, 60), (61, 61), (63, 63)] ++ idZ (j + 1))) cB_d0 cB_d0 ∧ ari .sub .i64 i 1 = ari .sub .i64 i 1 ∧ cN ∧ TodoOk (ren 0 ([(0, 0), (1, 1), (2, 2), (3, 3), (4, 4), (5, 5), (7, 7), (8, 8), (9, 65), (10, 10), (60, 60), (61, 61), (63, 63)] ++ idZ (j + 1))) cB_d1 cB_d1 ∧ cN ∧ TodoOk (ren 0 ([(0, 0), (1, 1), (2, 2), (3, 3), (4, 4), (5, 5), (7, 7), (8, 8), (9, 65), (10, 10), (60, 60), (61, 61), (63, 63)] ++ idZ (j + 1))) cA_d1 cA_d1 ∧ 39 = 39 ∧ ts = ts ∧ 30 = 30 ∧ h = h ∧ 39 = 39 ∧ us = us ∧ 39 = 39 ∧ u0 = u0 ∧ 30 = 30 ∧ Array.extract cs 0 (n * 1) ++ #[Value.int .u32 (intAt ks (0 + Int.toNat i * 1))] = Array.extract cs 0 (n * 1) ++ #[Value.int .u32 (intAt ks (0 + Int.toNat i * 1))] ∧ 68 = 68 ∧ r = r ∧ 39 = 39 ∧ zz = zz ∧ 81 = 81 ∧ Fn.func 44 = Fn.func 44 ∧ 30 = 30 ∧ ks = ks ∧ 68 = 68 ∧ n + 1 = n + 1 ∧ EqL cLp cLp ∧ EqL wkLp wkLp ∧ True) ∧ (decide (ari .sub .i64 i 1 ≥ 0) = false → (decide ((↑(n + 1) : Int) > 0) = true → QA us zz (n + 1) (Array.extract cs 0 (n * 1) ++ #[Value.int .u32 (intAt ks (0 + Int.toNat i * 1))]) ∧ cN ∧ TodoOk (ren 0 ([(0, 0), (1, 1), (2, 2), (3, 3), (4, 4), (5, 5), (7, 7), (8, 8), (9, 65), (10, 10)] ++ idZ (j + 1))) cA_d0 cA_d0 ∧ cN ∧ TodoOk (ren 0 ([(0, 0), (1, 1), (2, 2), (3, 3), (4, 4), (5, 5), (7, 7), (8, 8), (9, 65), (10, 10)] ++ idZ (j + 1))) cA_d1 cA_d1 ∧ 39 = 39 ∧ ts = ts ∧ 30 = 30 ∧ h = h ∧ 39 = 39 ∧ us = us ∧ 39 = 39 ∧ u0 = u0 ∧ 30 = 30 ∧ Array.extract cs 0 (n * 1) ++ #[Value.int .u32 (intAt ks (0 + Int.toNat i * 1))] = Array.extract cs 0 (n * 1) ++ #[Value.int .u32 (intAt ks (0 + Int.toNat i * 1))] ∧ 39 = 39 ∧ zz = zz ∧ 81 = 81 ∧ Fn.func 44 = Fn.func 44 ∧ 68 = 68 ∧ n + 1 = n + 1 ∧ EqL cLp cLp ∧ True) ∧ (decide ((↑(n + 1) : Int) > 0) = false → (Array.size us = 448 ∧ True) ∧ (Array.size us = 448 ∧ Array.size us = Array.size zz ∧ True) ∧ (Array.size us = 448 ∧ True) ∧ o = us ∧ e = 0 ∧ True)))
theorem cVB_all : ∀ j, j < 33 → ∀ (ts : Array Value) (h : Int) (u0 : Array Value) (r : Nat) (ks : Array Value) (i : Int) (us : Array Value) (zz : Array Value) (n : Nat) (cs : Array Value) (o : Array Value) (e : Int) (QA : Array Value → Array Value → Nat → Array Value → Prop) (QB : Int → Array Value → Array Value → Nat → Array Value → Prop), (stepT Ecn.go (run Ecn 1000) 0 (cB_F j ts h u0 r ks i us zz n cs) (cB_M j ts h u0 r ks i us zz n cs)).vc (retOk 0 [] (rgS o e) e0M) (cAB j ts h u0 r ks QA QB) = cVB_R j ts h u0 r ks i us zz n cs o e QA QB
 | 0, _ | 1, _ | 2, _ | 3, _ | 4, _ | 5, _ | 6, _ | 7, _ | 8, _ | 9, _ | 10, _ | 11, _ | 12, _ | 13, _ | 14, _ | 15, _ | 16, _ | 17, _ | 18, _ | 19, _ | 20, _ | 21, _ | 22, _ | 23, _ | 24, _ | 25, _ | 26, _ | 27, _ | 28, _ | 29, _ | 30, _ | 31, _ | 32, _ => fun ts h u0 r ks i us zz n cs o e QA QB => by kernel_rfl
 | n + 33, h => by omega
set_option linter.unusedVariables false
theorem Ec0_ok : EnvOk Ec0 := EnvOk.with E0_ok _ _ conT4_ok
theorem Ecn_ok : EnvOk Ecn := EnvOk.with E0_ok _ _ conT4_ok
section
variable {ts u0 : Array Value} {h : Int}
def cuN (ts : Array Value) (h : Int) (u : Array Value) (o : List Int) : Array Value := o.foldl (fun us x => emT us ts h x) u
theorem cuN_one (u : Array Value) (o : List Int) (x : Int) : cuN ts h u (o ++ [x]) = emT (cuN ts h u o) ts h x := by unfold cuN; rw [List.foldl_append]; rfl
theorem em_f {u : Array Value} (hb : TbOk u) {x : Int} (hx : gdF u x = true) : TbOk (emT u ts h x) ∧ bkB (emT u ts h x) = bkB u ∧ ∀ y, gdF u y = true → upR (emT u ts h x) y = upR u y ∧ quF (emT u ts h x) y = quF u y ∧ ∀ k, k < 8 → ceF (emT u ts h x) y k = if y = x then clC ts h (ceF u y k) else ceF u y k := by
 obtain ⟨i1, i2, i3⟩ := rg_in hb hx
 obtain ⟨r1, r2, r3, r4⟩ := rgT_f (u := upR u x) (q := quF u x) (c := fun k => clC ts h (ceF u x k)) hb hx i1 i2 (fun k hk => cl_in (i3 k hk))
 refine ⟨r1, r2, fun y hy => ?_⟩
 by_cases e : y = x
 ·rw [e]
  exact ⟨r3.1, r3.2.1, fun k hk => by rw [if_pos rfl]; exact r3.2.2 k hk⟩
 ·obtain ⟨a, b, c⟩ := r4 y hy e
  exact ⟨a, b, fun k hk => by rw [if_neg e]; exact c k hk⟩
theorem cl_cl (c : Int) : clC ts h (clC ts h c) = clC ts h c := by
 by_cases k : c ≠ h ∧ outF ts c h = true
 ·have e : clC ts h c = 0 := if_pos k
  rw [e]
  unfold clC
  split <;> rfl
 ·have e : clC ts h c = c := if_neg k
  rw [e, e]
theorem cu_f : ∀ (o : List Int) {u : Array Value}, TbOk u → (∀ x ∈ o, gdF u x = true) → TbOk (cuN ts h u o) ∧ bkB (cuN ts h u o) = bkB u ∧ ∀ y, gdF u y = true → upR (cuN ts h u o) y = upR u y ∧ quF (cuN ts h u o) y = quF u y ∧ ∀ k, k < 8 → ceF (cuN ts h u o) y k = if y ∈ o then clC ts h (ceF u y k) else ceF u y k
 | [], u, hb, _ => ⟨hb, rfl, fun y _ => ⟨rfl, rfl, fun k _ => by simp [cuN]⟩⟩
 | x :: o, u, hb, hg => by
  obtain ⟨h1, h2, h3⟩ := em_f (ts := ts) (h := h) hb (hg x (List.mem_cons_self ..))
  obtain ⟨k1, k2, k3⟩ := cu_f o h1 (fun y hy => by rw [gd_bk h2]; exact hg y (List.mem_cons_of_mem _ hy))
  refine ⟨k1, k2.trans h2, fun y hy => ?_⟩
  obtain ⟨a1, a2, a3⟩ := h3 y hy
  obtain ⟨b1, b2, b3⟩ := k3 y (by rw [gd_bk h2]; exact hy)
  refine ⟨b1.trans a1, b2.trans a2, fun k hk => ?_⟩
  show ceF (cuN ts h (emT u ts h x) o) y k = _
  rw [b3 k hk, a3 k hk]
  by_cases e : y = x
  ·by_cases m : y ∈ o
   ·rw [if_pos m, if_pos e, cl_cl, if_pos (List.mem_cons.2 (.inl e))]
   ·rw [if_neg m, if_pos e, if_pos (List.mem_cons.2 (.inl e))]
  ·by_cases m : y ∈ o
   ·rw [if_pos m, if_neg e, if_pos (List.mem_cons_of_mem _ m)]
   ·rw [if_neg m, if_neg e, if_neg (fun k => (List.mem_cons.1 k).elim e m)]
theorem cAB_good {j r : Nat} {ks : Array Value} {A : SV → SMem → Prop} {QA : Array Value → Array Value → Nat → Array Value → Prop} {QB : Int → Array Value → Array Value → Nat → Array Value → Prop} {fs : List SFr} {m : SMem} (hA : ∀ us zz n cs, QA us zz n cs → Good Tryd.prog A 0 (cA_F (j + 1) ts h u0 us zz n cs) (cA_M (j + 1) ts h u0 us zz n cs)) (hB : ∀ i us zz n cs, QB i us zz n cs → Good Tryd.prog A 0 (cB_F j ts h u0 r ks i us zz n cs) (cB_M j ts h u0 r ks i us zz n cs)) (hb : cAB j ts h u0 r ks QA QB fs m) : Good Tryd.prog A 0 fs m := by
 unfold cAB at hb
 split at hb
 ·exact cA_good hA hb
 ·exact cB_good hB hb
theorem cB_S {j r : Nat} {ks : Array Value} {i : Int} {us zz : Array Value} {n : Nat} {cs o : Array Value} {e : Int} {QA : Array Value → Array Value → Nat → Array Value → Prop} {QB : Int → Array Value → Array Value → Nat → Array Value → Prop} (hr : r ≤ 1000) (hn : n ≤ 1000)
  (h1 : 0 ≤ i ∧ i < (r : Int)) (h2 : IsInt .u32 ks i.toNat) (h4 : n ≤ cs.size) (hB : 1 ≤ i → QB (i - 1) us zz (n + 1) (cs.extract 0 n ++ #[.int .u32 (intAt ks i.toNat)])) (hA : ¬ 1 ≤ i → QA us zz (n + 1) (cs.extract 0 n ++ #[.int .u32 (intAt ks i.toNat)])) : cVB_R j ts h u0 r ks i us zz n cs o e QA QB := by
 have e := i64_sub1 (i := i) ⟨h1.1, by omega⟩
 have d2 : decide (((n + 1 : Nat) : Int) > 0) = true := decide_eq_true (by omega)
 have hl1 : ((n + 1) * 4 ≤ 140737488355328 ∧ n + 1 ≤ 140737488355328) := ⟨by omega, by omega⟩
 have t1 : TodoOk (ren 0 ([(0, 0), (1, 1), (2, 2), (3, 3), (4, 4), (5, 5), (7, 7), (8, 8), (9, 65), (10, 10), (60, 60), (61, 61), (63, 63)] ++ idZ (j + 1))) cB_d1 cB_d1 := TodoOk.rf rfl (by kernel_rfl)
 have t2 : TodoOk (ren 0 ([(0, 0), (1, 1), (2, 2), (3, 3), (4, 4), (5, 5), (7, 7), (8, 8), (9, 65), (10, 10), (60, 60), (61, 61), (63, 63)] ++ idZ (j + 1))) cA_d1 cA_d1 := TodoOk.rf rfl (by kernel_rfl)
 have t3 : TodoOk (ren 0 ([(0, 0), (1, 1), (2, 2), (3, 3), (4, 4), (5, 5), (7, 7), (8, 8), (9, 65), (10, 10)] ++ idZ (j + 1))) cA_d1 cA_d1 := TodoOk.rf rfl (by kernel_rfl)
 unfold cVB_R
 simp only [e, d2, hl1, h1, h2, h4, t1, t2, t3, EqL_self, Nat.mul_one, Nat.zero_add, cA_d0_ok, cB_d0_ok, q6]
 refine ⟨fun k => hB (by have := of_decide_eq_true k; omega), fun k => hA (by have := of_decide_eq_false k; omega)⟩
section
variable {O : Array Value} {X : Int}
theorem cB_ok {j : Nat} {us zz : Array Value} {st0 K : List Int} (hj : j < 32) (hK : K.length ≤ 32) (hst : st0.length ≤ 64)
  (hA : ∀ cs, Stk cs (st0 ++ K.reverse) → Good Tryd.prog (retOk 0 [] (rgS O X) e0M) 0 (cA_F (j + 1) ts h u0 us zz (st0 ++ K.reverse).length cs) (cA_M (j + 1) ts h u0 us zz (st0 ++ K.reverse).length cs)) :
  ∀ (i : Nat) (cs : Array Value), i < K.length → Stk cs (st0 ++ (K.drop (i + 1)).reverse) → Good Tryd.prog (retOk 0 [] (rgS O X) e0M) 0 (cB_F j ts h u0 K.length (u32s K) (i : Int) us zz (st0 ++ (K.drop (i + 1)).reverse).length cs) (cB_M j ts h u0 K.length (u32s K) (i : Int) us zz (st0 ++ (K.drop (i + 1)).reverse).length cs) := by
 intro i
 induction i with
 | zero =>
  intro cs hi hs
  have hpush := hs.push (x := K.getD 0 0)
  have e0 : (st0 ++ (K.drop (0 + 1)).reverse) ++ [K.getD 0 0] = st0 ++ K.reverse := by
   rw [List.append_assoc]
   congr 1
   cases K with
   | nil => exact absurd hi (by simp)
   | cons a l => simp
  rw [e0] at hpush
  have el : (st0 ++ (K.drop (0 + 1)).reverse).length + 1 = (st0 ++ K.reverse).length := by
   have := congrArg List.length e0
   simp only [List.length_append, List.length_cons, List.length_nil] at this ⊢
   omega
  have hk := u32s_at hi
  have hl : (st0 ++ (K.drop (0 + 1)).reverse).length ≤ 96 := by rw [List.length_append, List.length_reverse, List.length_drop]; omega
  refine past_vc Ecn_ok 1000 (cVB_all j (by omega) ts h u0 _ _ _ _ _ _ _ O X (fun u z n c => u = us ∧ z = zz ∧ n = (st0 ++ K.reverse).length ∧ Stk c (st0 ++ K.reverse)) (fun _ _ _ _ _ => False)) ?_ (fun _ _ h => h) (fun fs m hb => cAB_good (fun u z n c ⟨e1, e2, e3, e4⟩ => by rw [e1, e2, e3]; exact hA c e4) (fun _ _ _ _ _ h => h.elim) hb)
  refine cB_S (by omega) (by omega) ⟨by omega, by omega⟩ (isI_of hk) hs.1 (fun k => absurd k (by decide)) (fun _ => ⟨rfl, rfl, el, ?_⟩)
  rw [show (((0 : Nat) : Int)).toNat = 0 from rfl, intAt_of hk]
  exact hpush
 | succ i ih =>
  intro cs hi hs
  have hpush := hs.push (x := K.getD (i + 1) 0)
  have e0 : (st0 ++ (K.drop (i + 1 + 1)).reverse) ++ [K.getD (i + 1) 0] = st0 ++ (K.drop (i + 1)).reverse := by
   rw [List.append_assoc]
   congr 1
   rw [List.drop_eq_getElem_cons hi, List.reverse_cons, List.getD_eq_getElem?_getD, List.getElem?_eq_getElem hi]
   rfl
  rw [e0] at hpush
  have el : (st0 ++ (K.drop (i + 1 + 1)).reverse).length + 1 = (st0 ++ (K.drop (i + 1)).reverse).length := by
   have := congrArg List.length e0
   simp only [List.length_append, List.length_cons, List.length_nil] at this ⊢
   omega
  have hk := u32s_at hi
  have hl : (st0 ++ (K.drop (i + 1 + 1)).reverse).length ≤ 96 := by rw [List.length_append, List.length_reverse, List.length_drop]; omega
  refine past_vc Ecn_ok 1000 (cVB_all j (by omega) ts h u0 _ _ _ _ _ _ _ O X (fun _ _ _ _ => False) (fun i' u z n c => i' = (i : Int) ∧ u = us ∧ z = zz ∧ n = (st0 ++ (K.drop (i + 1)).reverse).length ∧ Stk c (st0 ++ (K.drop (i + 1)).reverse))) ?_ (fun _ _ h => h) (fun fs m hb => cAB_good (fun _ _ _ _ h => h.elim) (fun i' u z n c ⟨e0, e1, e2, e3, e4⟩ => by rw [e0, e1, e2, e3]; exact ih c (by omega) e4) hb)
  refine cB_S (by omega) (by omega) ⟨by omega, by omega⟩ (by rw [Int.toNat_natCast]; exact isI_of hk) hs.1 (fun _ => ⟨by omega, rfl, rfl, el, ?_⟩) (fun k => absurd (show (1 : Int) ≤ ((i + 1 : Nat) : Int) by omega) k)
  rw [Int.toNat_natCast, intAt_of hk]
  exact hpush
end
theorem cA_S {j r : Nat} {ks us zz : Array Value} {n' : Nat} {cs o : Array Value} {x e : Int} {QA : Array Value → Array Value → Nat → Array Value → Prop} {QB : Int → Array Value → Array Value → Nat → Array Value → Prop} (hb : TbOk u0) (hf : FIn ts) (hh : inH h) (hus : TbOk us) (hgx : gdF us x = true) (hz : zz.size = 448) (hx : cs[n']? = some (.int .u32 x)) (hxi : inH x) (hn : n' ≤ 1000)
  (h0 : kdF u0 x = [] → (n' ≠ 0 → QA (emT us ts h x) zz n' cs) ∧ (n' = 0 → o = emT us ts h x ∧ e = 0))
  (h1 : kdF u0 x ≠ [] → QB (((kdF u0 x).length - 1 : Nat) : Int) (emT us ts h x) zz n' cs ∧ r = (kdF u0 x).length ∧ ks = u32s (kdF u0 x)) : cVA_R j ts h u0 r ks us zz (n' + 1) cs o e QA QB := by
 have e : ari .sub .i64 (((n' + 1 : Nat) : Int)) 1 = (n' : Int) := by rw [i64_sub1 ⟨by omega, by omega⟩]; omega
 have g1 : IsInt .u32 cs n' := isI_of hx
 have g2 : intAt cs n' = x := intAt_of hx
 have hxi' : 0 ≤ x ∧ x < 4294967296 := hxi
 have hh' : 0 ≤ h ∧ h < 4294967296 := hh
 have hs := hb.sz
 have hs2 := hus.sz
 have hs3 := (em_f (ts := ts) (h := h) hus hgx).1.sz
 have y0 : 0 ≤ (n' : Int) := by omega
 have y1 : (n' : Int) < ((n' + 1 : Nat) : Int) := by omega
 have y2 : n' ≤ n' + 1 := by omega
 have hkl := kd_len u0 x
 have t1 : ∀ k, TodoOk (ren 0 ([(0, 0), (1, 1), (2, 2), (3, 3), (4, 4), (5, 5), (7, 7), (8, 8), (9, 9), (10, 10)] ++ (20 + j, k) :: idZ j)) cA_d1 cA_d1 := fun k => TodoOk.rf rfl (by kernel_rfl)
 have t2 : ∀ k, TodoOk (ren 0 ([(0, 0), (1, 1), (2, 2), (3, 3), (4, 4), (5, 5), (7, 7), (8, 8), (9, 9), (10, 10), (60, 60), (61, 61), (63, 63)] ++ (20 + j, k) :: idZ j)) cB_d1 cB_d1 := fun k => TodoOk.rf rfl (by kernel_rfl)
 have t3 : ∀ k, TodoOk (ren 0 ([(0, 0), (1, 1), (2, 2), (3, 3), (4, 4), (5, 5), (7, 7), (8, 8), (9, 9), (10, 10), (60, 60), (61, 61), (63, 63)] ++ (20 + j, k) :: idZ j)) cA_d1 cA_d1 := fun k => TodoOk.rf rfl (by kernel_rfl)
 unfold cVA_R
 simp only [e, g1, g2, hxi', hh', hs, hs2, hs3, hz, hb, hf, hus, hgx, y0, y1, y2, t1, t2, t3, EqL_self, cA_d0_ok, cB_d0_ok, q7, q6]
 constructor
 ·intro k
  obtain ⟨a, b⟩ := h0 (List.eq_nil_of_length_eq_zero (of_decide_eq_true k))
  exact ⟨fun c => a (by have := of_decide_eq_true c; omega), fun c => b (by have := of_decide_eq_false c; omega)⟩
 ·intro k
  have hne : kdF u0 x ≠ [] := fun e => of_decide_eq_false k (by rw [e]; rfl)
  have hp := List.length_pos_iff.2 hne
  obtain ⟨a, b, c⟩ := h1 hne
  have e2 : ari .sub .i64 ((kdF u0 x).length : Int) 1 = (((kdF u0 x).length - 1 : Nat) : Int) := by rw [i64_sub1 ⟨by omega, by omega⟩]; omega
  have d : decide ((((kdF u0 x).length - 1 : Nat) : Int) ≥ 0) = true := decide_eq_true (by omega)
  simp only [e2, d, true_implies, Bool.true_eq_false, false_implies, and_true]
  exact ⟨a, b, c⟩
theorem cA_ok (hf0 : FIn u0) (hf : FIn ts) (hhi : inH h) {c : Int} (hc : c ∈ lvT u0) {zz : Array Value} (hz : zz.size = 448) : ∀ (rem : Nat) (o st : List Int) (cs : Array Value), (UNL u0 c).length - o.length < rem → st ≠ [] → Stk cs st → (∀ y ∈ st, y ∈ lvT u0) → (∀ y ∈ o, y ∈ lvT u0) → o ++ st.reverse.flatMap (UNL u0) = UNL u0 c → Good Tryd.prog (retOk 0 [] (rgS (cuN ts h u0 (UNL u0 c)) 0) e0M) 0 (cA_F o.length ts h u0 (cuN ts h u0 o) zz st.length cs) (cA_M o.length ts h u0 (cuN ts h u0 o) zz st.length cs) := by
 have hU : (UNL u0 c).length ≤ 32 := un_32 hf0 hc
 have hb := hf0.ok
 intro rem
 induction rem with
 | zero => intro o st cs hr; omega
 | succ rem ih =>
  intro o st cs hr hne hs hsub hext hsum
  obtain ⟨st0, x, rfl⟩ := last_split hne
  have hx : x ∈ lvT u0 := hsub x (by simp)
  obtain ⟨hs0, hx0⟩ := hs.pop
  have hsum2 : (o ++ [x]) ++ ((kidsL (lvT u0) (upF u0) x).flatMap (UNL u0) ++ st0.reverse.flatMap (UNL u0)) = UNL u0 c := by
   rw [← hsum, List.reverse_append, List.reverse_cons, List.reverse_nil, List.nil_append, List.cons_append, List.nil_append, List.flatMap_cons, unl_cons hf0 hx]
   simp only [List.append_assoc, List.cons_append, List.nil_append]
  have ho : o.length < (UNL u0 c).length := by
   have := congrArg List.length hsum2
   simp only [List.length_append, List.length_cons, List.length_nil] at this
   omega
  have hxU : x ∈ UNL u0 c := by rw [← hsum2]; simp
  have hel : (st0 ++ [x]).length = st0.length + 1 := by rw [List.length_append]; rfl
  have hst0 : st0.length ≤ 64 := by
   have h1 := flat_len (f := UNL u0) (l := st0.reverse) fun y hy => by
    rw [unl_cons hf0 (hsub y (List.mem_append_left _ (List.mem_reverse.1 hy)))]
    exact Nat.le_add_left 1 _
   rw [List.length_reverse] at h1
   have h2 := congrArg List.length hsum2
   simp only [List.length_append, List.length_cons, List.length_nil] at h2
   omega
  have kd := kdF_eq hf0 hx
  have hkl := kd_len u0 x
  rw [hel]
  have eo : (o ++ [x]).length = o.length + 1 := by rw [List.length_append]; rfl
  have ho32 : o.length < 32 := by omega
  have hgo : ∀ y ∈ o, gdF u0 y = true := fun y hy => (lv_mem hb).1 (hext y hy)
  have hgx0 := (lv_mem hb).1 hx
  obtain ⟨cu1, cu2, _⟩ := cu_f (ts := ts) (h := h) o hb hgo
  have hgx : gdF (cuN ts h u0 o) x = true := by rw [gd_bk cu2]; exact hgx0
  have e1x := (cuN_one (ts := ts) (h := h) u0 o x).symm
  have hext2 : ∀ y ∈ o ++ [x], y ∈ lvT u0 := fun y hy => (List.mem_append.1 hy).elim (hext y) fun k => by rw [List.mem_singleton.1 k]; exact hx
  refine past_vc Ecn_ok 1000 (cVA_all o.length (by omega) ts h u0 (kdF u0 x).length (u32s (kdF u0 x)) _ _ _ _ (cuN ts h u0 (UNL u0 c)) 0
   (fun u z n c' => (u = cuN ts h u0 (o ++ [x]) ∧ z = zz) ∧ n = st0.length ∧ c' = cs ∧ st0 ≠ [] ∧ kdF u0 x = [])
   (fun i u z n c' => i = (((kdF u0 x).length - 1 : Nat) : Int) ∧ (u = cuN ts h u0 (o ++ [x]) ∧ z = zz) ∧ n = st0.length ∧ c' = cs ∧ kdF u0 x ≠ [])) ?_ (fun _ _ h => h)
   (fun fs m hg => cAB_good (fun u z n c' ⟨⟨e1, e2⟩, e3, e4, e5, e6⟩ => ?_) (fun i u z n c' ⟨e0, ⟨e1, e2⟩, e3, e4, e5⟩ => ?_) hg)
  ·refine cA_S hb hf hhi cu1 hgx hz hx0 (lv_in hb (.inr hx)) (by omega) (fun k => ⟨fun k2 => ⟨⟨e1x, rfl⟩, rfl, rfl, fun e => k2 (by rw [e]; rfl), k⟩, fun k2 => ?_⟩) (fun k => ⟨⟨rfl, ⟨e1x, rfl⟩, rfl, rfl, k⟩, rfl, rfl⟩)
   have e0 : st0 = [] := List.eq_nil_of_length_eq_zero k2
   rw [kd] at k
   rw [k, e0] at hsum2
   have e3 : UNL u0 c = o ++ [x] := by
    rw [← hsum2]
    simp
   rw [e3]
   exact ⟨e1x.symm, rfl⟩
  ·rw [e1, e2, e3, e4, ← eo]
   rw [kd] at e6
   rw [e6] at hsum2
   refine ih (o ++ [x]) st0 cs (by rw [eo]; omega) e5 hs0 (fun y hy => hsub y (List.mem_append_left _ hy)) hext2 ?_
   simpa using hsum2
  ·rw [e0, e1, e2, e3, e4]
   have hp := List.length_pos_iff.2 e5
   have hdrop : (kdF u0 x).drop ((kdF u0 x).length - 1 + 1) = [] := List.drop_eq_nil_of_le (by omega)
   have := cB_ok (ts := ts) (h := h) (u0 := u0) (O := (cuN ts h u0 (UNL u0 c))) (X := 0) (j := o.length) (us := cuN ts h u0 (o ++ [x])) (zz := zz) (st0 := st0) (K := kdF u0 x) (by omega) hkl hst0 (fun c' hc' => ?_) ((kdF u0 x).length - 1) cs (by omega) (by rw [hdrop]; simpa using hs0)
   ·rw [hdrop] at this
    simpa using this
   ·rw [← eo]
    have hsub2 : ∀ y ∈ st0 ++ (kdF u0 x).reverse, y ∈ lvT u0 := fun y hy => by
     rcases List.mem_append.1 hy with k | k
     ·exact hsub y (List.mem_append_left _ k)
     ·rw [kd] at k
      exact (kids_memL.1 (List.mem_reverse.1 k)).1
    refine ih (o ++ [x]) (st0 ++ (kdF u0 x).reverse) c' (by rw [eo]; omega) (fun e => e5 (by simpa using (List.append_eq_nil_iff.1 e).2)) hc' hsub2 hext2 ?_
    ·rw [List.reverse_append, List.reverse_reverse, List.flatMap_append, kd]
     exact hsum2
end
set_option linter.unusedVariables false
theorem Eg0_ok : EnvOk Eg0 := EnvOk.with E0_ok _ _ conT4_ok
theorem Egn_ok : EnvOk Egn := EnvOk.with E0_ok _ _ conT4_ok
section
variable {ts : Array Value} {h up : Int}
theorem dep_13 (hf : FIn ts) (x : Int) : depF ts x ≤ 13 := by
 unfold depF
 split
 ·rename_i k; exact (dep_le hf.fo ((lv_mem hf.ok).2 k)).2
 ·exact Nat.zero_le _
theorem gAB_good {j r : Nat} {ks : Array Value} {A : SV → SMem → Prop} {QA : Array Value → Nat → Array Value → Prop} {QB : Int → Array Value → Nat → Array Value → Prop} {fs : List SFr} {m : SMem} (hA : ∀ zz n cs, QA zz n cs → Good Tryd.prog A 0 (gA_F (j + 1) ts h up zz n cs) (gA_M (j + 1) ts h up zz n cs)) (hB : ∀ i zz n cs, QB i zz n cs → Good Tryd.prog A 0 (gB_F j ts h up r ks i zz n cs) (gB_M j ts h up r ks i zz n cs)) (hb : gAB j ts h up r ks QA QB fs m) : Good Tryd.prog A 0 fs m := by
 unfold gAB at hb
 split at hb
 ·exact gA_good hA hb
 ·exact gB_good hB hb
theorem gB_S {j r : Nat} {ks : Array Value} {i : Int} {zz : Array Value} {n : Nat} {cs o : Array Value} {e : Int} {QA : Array Value → Nat → Array Value → Prop} {QB : Int → Array Value → Nat → Array Value → Prop} (hr : r ≤ 1000) (hn : n ≤ 1000)
  (h1 : 0 ≤ i ∧ i < (r : Int)) (h2 : IsInt .u32 ks i.toNat) (h4 : n ≤ cs.size) (hB : 1 ≤ i → QB (i - 1) zz (n + 1) (cs.extract 0 n ++ #[.int .u32 (intAt ks i.toNat)])) (hA : ¬ 1 ≤ i → QA zz (n + 1) (cs.extract 0 n ++ #[.int .u32 (intAt ks i.toNat)])) : gVB_R j ts h up r ks i zz n cs o e QA QB := by
 have e := i64_sub1 (i := i) ⟨h1.1, by omega⟩
 have d2 : decide (((n + 1 : Nat) : Int) > 0) = true := decide_eq_true (by omega)
 have hl1 : ((n + 1) * 4 ≤ 140737488355328 ∧ n + 1 ≤ 140737488355328) := ⟨by omega, by omega⟩
 have t1 : TodoOk (ren 0 ([(0, 0), (1, 1), (2, 2), (3, 3), (4, 4), (6, 6), (7, 7), (8, 65), (9, 9), (60, 60), (61, 61), (63, 63)] ++ idZ (j + 1))) gB_d1 gB_d1 := TodoOk.rf rfl (by kernel_rfl)
 have t2 : TodoOk (ren 0 ([(0, 0), (1, 1), (2, 2), (3, 3), (4, 4), (6, 6), (7, 7), (8, 65), (9, 9), (60, 60), (61, 61), (63, 63)] ++ idZ (j + 1))) gA_d1 gA_d1 := TodoOk.rf rfl (by kernel_rfl)
 have t3 : TodoOk (ren 0 ([(0, 0), (1, 1), (2, 2), (3, 3), (4, 4), (6, 6), (7, 7), (8, 65), (9, 9)] ++ idZ (j + 1))) gA_d1 gA_d1 := TodoOk.rf rfl (by kernel_rfl)
 unfold gVB_R
 simp only [e, d2, hl1, h1, h2, h4, t1, t2, t3, EqL_self, Nat.mul_one, Nat.zero_add, gA_d0_ok, gB_d0_ok, q6]
 refine ⟨fun k => hB (by have := of_decide_eq_true k; omega), fun k => hA (by have := of_decide_eq_false k; omega)⟩
section
variable {O : Array Value} {X : Int}
theorem gB_ok {j : Nat} {zz : Array Value} {st0 K : List Int} (hj : j < 32) (hK : K.length ≤ 32) (hst : st0.length ≤ 64)
  (hA : ∀ cs, Stk cs (st0 ++ K.reverse) → Good Tryd.prog (retOk 0 [] (rgS O X) e0M) 0 (gA_F (j + 1) ts h up zz (st0 ++ K.reverse).length cs) (gA_M (j + 1) ts h up zz (st0 ++ K.reverse).length cs)) :
  ∀ (i : Nat) (cs : Array Value), i < K.length → Stk cs (st0 ++ (K.drop (i + 1)).reverse) → Good Tryd.prog (retOk 0 [] (rgS O X) e0M) 0 (gB_F j ts h up K.length (u32s K) (i : Int) zz (st0 ++ (K.drop (i + 1)).reverse).length cs) (gB_M j ts h up K.length (u32s K) (i : Int) zz (st0 ++ (K.drop (i + 1)).reverse).length cs) := by
 intro i
 induction i with
 | zero =>
  intro cs hi hs
  have hpush := hs.push (x := K.getD 0 0)
  have e0 : (st0 ++ (K.drop (0 + 1)).reverse) ++ [K.getD 0 0] = st0 ++ K.reverse := by
   rw [List.append_assoc]
   congr 1
   cases K with
   | nil => exact absurd hi (by simp)
   | cons a l => simp
  rw [e0] at hpush
  have el : (st0 ++ (K.drop (0 + 1)).reverse).length + 1 = (st0 ++ K.reverse).length := by
   have := congrArg List.length e0
   simp only [List.length_append, List.length_cons, List.length_nil] at this ⊢
   omega
  have hk := u32s_at hi
  have hl : (st0 ++ (K.drop (0 + 1)).reverse).length ≤ 96 := by rw [List.length_append, List.length_reverse, List.length_drop]; omega
  refine past_vc Egn_ok 1000 (gVB_all j (by omega) ts h up _ _ _ _ _ _ O X (fun z n c => z = zz ∧ n = (st0 ++ K.reverse).length ∧ Stk c (st0 ++ K.reverse)) (fun _ _ _ _ => False)) ?_ (fun _ _ h => h) (fun fs m hb => gAB_good (fun z n c ⟨e2, e3, e4⟩ => by rw [e2, e3]; exact hA c e4) (fun _ _ _ _ h => h.elim) hb)
  refine gB_S (by omega) (by omega) ⟨by omega, by omega⟩ (isI_of hk) hs.1 (fun k => absurd k (by decide)) (fun _ => ⟨rfl, el, ?_⟩)
  rw [show (((0 : Nat) : Int)).toNat = 0 from rfl, intAt_of hk]
  exact hpush
 | succ i ih =>
  intro cs hi hs
  have hpush := hs.push (x := K.getD (i + 1) 0)
  have e0 : (st0 ++ (K.drop (i + 1 + 1)).reverse) ++ [K.getD (i + 1) 0] = st0 ++ (K.drop (i + 1)).reverse := by
   rw [List.append_assoc]
   congr 1
   rw [List.drop_eq_getElem_cons hi, List.reverse_cons, List.getD_eq_getElem?_getD, List.getElem?_eq_getElem hi]
   rfl
  rw [e0] at hpush
  have el : (st0 ++ (K.drop (i + 1 + 1)).reverse).length + 1 = (st0 ++ (K.drop (i + 1)).reverse).length := by
   have := congrArg List.length e0
   simp only [List.length_append, List.length_cons, List.length_nil] at this ⊢
   omega
  have hk := u32s_at hi
  have hl : (st0 ++ (K.drop (i + 1 + 1)).reverse).length ≤ 96 := by rw [List.length_append, List.length_reverse, List.length_drop]; omega
  refine past_vc Egn_ok 1000 (gVB_all j (by omega) ts h up _ _ _ _ _ _ O X (fun _ _ _ => False) (fun i' z n c => i' = (i : Int) ∧ z = zz ∧ n = (st0 ++ (K.drop (i + 1)).reverse).length ∧ Stk c (st0 ++ (K.drop (i + 1)).reverse))) ?_ (fun _ _ h => h) (fun fs m hb => gAB_good (fun _ _ _ h => h.elim) (fun i' z n c ⟨e0, e2, e3, e4⟩ => by rw [e0, e2, e3]; exact ih c (by omega) e4) hb)
  refine gB_S (by omega) (by omega) ⟨by omega, by omega⟩ (by rw [Int.toNat_natCast]; exact isI_of hk) hs.1 (fun _ => ⟨by omega, rfl, el, ?_⟩) (fun k => absurd (show (1 : Int) ≤ ((i + 1 : Nat) : Int) by omega) k)
  rw [Int.toNat_natCast, intAt_of hk]
  exact hpush
end
theorem gA_S {j r : Nat} {ks zz : Array Value} {n' : Nat} {cs o : Array Value} {x e : Int} {QA : Array Value → Nat → Array Value → Prop} {QB : Int → Array Value → Nat → Array Value → Prop} (hf : FIn ts) (hh : inH h) (hu : inH up) (hz : zz.size = 448) (hsr : (raT ts h up).size = 448) (hx : cs[n']? = some (.int .u32 x)) (hxi : inH x) (hn : n' ≤ 1000) (hd6 : depF ts x ≤ 13 ∧ depF ts up ≤ 13) (hbad : ¬ depF ts x + depF ts up ≤ 6 → o = ts ∧ e = 8)
  (h0 : depF ts x + depF ts up ≤ 6 → kdF ts x = [] → (n' ≠ 0 → QA zz n' cs) ∧ (n' = 0 → o = raT ts h up ∧ e = raE ts h up))
  (h1 : depF ts x + depF ts up ≤ 6 → kdF ts x ≠ [] → QB (((kdF ts x).length - 1 : Nat) : Int) zz n' cs ∧ r = (kdF ts x).length ∧ ks = u32s (kdF ts x)) : gVA_R j ts h up r ks zz (n' + 1) cs o e QA QB := by
 have hb := hf.ok
 have e : ari .sub .i64 (((n' + 1 : Nat) : Int)) 1 = (n' : Int) := by rw [i64_sub1 ⟨by omega, by omega⟩]; omega
 have g1 : IsInt .u32 cs n' := isI_of hx
 have g2 : intAt cs n' = x := intAt_of hx
 have hxi' : 0 ≤ x ∧ x < 4294967296 := hxi
 have hh' : 0 ≤ h ∧ h < 4294967296 := hh
 have hu' : 0 ≤ up ∧ up < 4294967296 := hu
 have hs := hb.sz
 have ed : ari .add .i64 ((depF ts x : Nat) : Int) ((depF ts up : Nat) : Int) = ((depF ts x + depF ts up : Nat) : Int) := by rw [ari_add, i64_in' (by omega) (by omega)]; omega
 have y0 : 0 ≤ (n' : Int) := by omega
 have y1 : (n' : Int) < ((n' + 1 : Nat) : Int) := by omega
 have y2 : n' ≤ n' + 1 := by omega
 have hkl := kd_len ts x
 have t1 : ∀ k, TodoOk (ren 0 ([(0, 0), (1, 1), (2, 2), (3, 3), (4, 4), (6, 6), (7, 7), (8, 8), (9, 9)] ++ (20 + j, k) :: idZ j)) gA_d1 gA_d1 := fun k => TodoOk.rf rfl (by kernel_rfl)
 have t2 : ∀ k, TodoOk (ren 0 ([(0, 0), (1, 1), (2, 2), (3, 3), (4, 4), (6, 6), (7, 7), (8, 8), (9, 9), (60, 60), (61, 61), (63, 63)] ++ (20 + j, k) :: idZ j)) gB_d1 gB_d1 := fun k => TodoOk.rf rfl (by kernel_rfl)
 have t3 : ∀ k, TodoOk (ren 0 ([(0, 0), (1, 1), (2, 2), (3, 3), (4, 4), (6, 6), (7, 7), (8, 8), (9, 9), (60, 60), (61, 61), (63, 63)] ++ (20 + j, k) :: idZ j)) gA_d1 gA_d1 := fun k => TodoOk.rf rfl (by kernel_rfl)
 unfold gVA_R
 by_cases hle : depF ts x + depF ts up ≤ 6
 rotate_left
 ·obtain ⟨b1, b2⟩ := hbad hle
  have dd : decide (((depF ts x + depF ts up : Nat) : Int) > 6) = true := decide_eq_true (by omega)
  simp only [e, dd, b1, b2, g1, g2, hxi', hh', hu', hs, hz, hsr, hb, hf, ed, y0, y1, y2, q7, q6]
 have dd : decide (((depF ts x + depF ts up : Nat) : Int) > 6) = false := decide_eq_false (by omega)
 have h0 := h0 hle
 have h1 := h1 hle
 simp only [e, dd, g1, g2, hxi', hh', hu', hs, hz, hsr, hb, hf, ed, y0, y1, y2, t1, t2, t3, EqL_self, gA_d0_ok, gB_d0_ok, q7, q6]
 constructor
 ·intro k
  obtain ⟨a, b⟩ := h0 (List.eq_nil_of_length_eq_zero (of_decide_eq_true k))
  exact ⟨fun c => a (by have := of_decide_eq_true c; omega), fun c => b (by have := of_decide_eq_false c; omega)⟩
 ·intro k
  have hne : kdF ts x ≠ [] := fun e => of_decide_eq_false k (by rw [e]; rfl)
  have hp := List.length_pos_iff.2 hne
  obtain ⟨a, b, c⟩ := h1 hne
  have e2 : ari .sub .i64 ((kdF ts x).length : Int) 1 = (((kdF ts x).length - 1 : Nat) : Int) := by rw [i64_sub1 ⟨by omega, by omega⟩]; omega
  have d : decide ((((kdF ts x).length - 1 : Nat) : Int) ≥ 0) = true := decide_eq_true (by omega)
  simp only [e2, d, true_implies, Bool.true_eq_false, false_implies, and_true]
  exact ⟨a, b, c⟩
theorem gA_ok (hf : FIn ts) (hhi : inH h) (hu : inH up) (hsr : (raT ts h up).size = 448) {c : Int} (hc : c ∈ lvT ts) {zz : Array Value} (hz : zz.size = 448) {O : Array Value} {X : Int} (hgood : (∀ y ∈ UNL ts c, depF ts y + depF ts up ≤ 6) → O = raT ts h up ∧ X = raE ts h up) (hbad : ∀ y ∈ UNL ts c, ¬ depF ts y + depF ts up ≤ 6 → O = ts ∧ X = 8) : ∀ (rem : Nat) (o st : List Int) (cs : Array Value), (UNL ts c).length - o.length < rem → st ≠ [] → Stk cs st → (∀ y ∈ st, y ∈ lvT ts) → (∀ y ∈ o, depF ts y + depF ts up ≤ 6) → o ++ st.reverse.flatMap (UNL ts) = UNL ts c → Good Tryd.prog (retOk 0 [] (rgS O X) e0M) 0 (gA_F o.length ts h up zz st.length cs) (gA_M o.length ts h up zz st.length cs) := by
 have hU : (UNL ts c).length ≤ 32 := un_32 hf hc
 have hb := hf.ok
 intro rem
 induction rem with
 | zero => intro o st cs hr; omega
 | succ rem ih =>
  intro o st cs hr hne hs hsub hext hsum
  obtain ⟨st0, x, rfl⟩ := last_split hne
  have hx : x ∈ lvT ts := hsub x (by simp)
  obtain ⟨hs0, hx0⟩ := hs.pop
  have hsum2 : (o ++ [x]) ++ ((kidsL (lvT ts) (upF ts) x).flatMap (UNL ts) ++ st0.reverse.flatMap (UNL ts)) = UNL ts c := by
   rw [← hsum, List.reverse_append, List.reverse_cons, List.reverse_nil, List.nil_append, List.cons_append, List.nil_append, List.flatMap_cons, unl_cons hf hx]
   simp only [List.append_assoc, List.cons_append, List.nil_append]
  have ho : o.length < (UNL ts c).length := by
   have := congrArg List.length hsum2
   simp only [List.length_append, List.length_cons, List.length_nil] at this
   omega
  have hxU : x ∈ UNL ts c := by rw [← hsum2]; simp
  have hel : (st0 ++ [x]).length = st0.length + 1 := by rw [List.length_append]; rfl
  have hst0 : st0.length ≤ 64 := by
   have h1 := flat_len (f := UNL ts) (l := st0.reverse) fun y hy => by
    rw [unl_cons hf (hsub y (List.mem_append_left _ (List.mem_reverse.1 hy)))]
    exact Nat.le_add_left 1 _
   rw [List.length_reverse] at h1
   have h2 := congrArg List.length hsum2
   simp only [List.length_append, List.length_cons, List.length_nil] at h2
   omega
  have kd := kdF_eq hf hx
  have hkl := kd_len ts x
  rw [hel]
  have eo : (o ++ [x]).length = o.length + 1 := by rw [List.length_append]; rfl
  have ho32 : o.length < 32 := by omega
  have hd13 : depF ts x ≤ 13 ∧ depF ts up ≤ 13 := ⟨dep_13 hf x, dep_13 hf up⟩
  refine past_vc Egn_ok 1000 (gVA_all o.length (by omega) ts h up (kdF ts x).length (u32s (kdF ts x)) _ _ _ O X
   (fun z n c' => (z = zz) ∧ n = st0.length ∧ c' = cs ∧ st0 ≠ [] ∧ kdF ts x = [] ∧ depF ts x + depF ts up ≤ 6)
   (fun i z n c' => i = (((kdF ts x).length - 1 : Nat) : Int) ∧ (z = zz) ∧ n = st0.length ∧ c' = cs ∧ kdF ts x ≠ [] ∧ depF ts x + depF ts up ≤ 6)) ?_ (fun _ _ h => h)
   (fun fs m hg => gAB_good (fun z n c' ⟨e2, e3, e4, e5, e6, e7⟩ => ?_) (fun i z n c' ⟨e0, e2, e3, e4, e5, e7⟩ => ?_) hg)
  ·refine gA_S hf hhi hu hz hsr hx0 (lv_in hb (.inr hx)) (by omega) hd13 (fun k => hbad x hxU k) (fun k6 k => ⟨fun k2 => ⟨rfl, rfl, rfl, fun e => k2 (by rw [e]; rfl), k, k6⟩, fun k2 => ?_⟩) (fun k6 k => ⟨⟨rfl, rfl, rfl, rfl, k, k6⟩, rfl, rfl⟩)
   have e0 : st0 = [] := List.eq_nil_of_length_eq_zero k2
   rw [kd] at k
   rw [k, e0] at hsum2
   have e3 : UNL ts c = o ++ [x] := by
    rw [← hsum2]
    simp
   refine hgood fun y hy => ?_
   rw [e3] at hy
   exact (List.mem_append.1 hy).elim (hext y) fun k => by rw [List.mem_singleton.1 k]; exact k6
  ·rw [e2, e3, e4, ← eo]
   have hext2 : ∀ y ∈ o ++ [x], depF ts y + depF ts up ≤ 6 := fun y hy => (List.mem_append.1 hy).elim (hext y) fun k => by rw [List.mem_singleton.1 k]; exact e7
   rw [kd] at e6
   rw [e6] at hsum2
   refine ih (o ++ [x]) st0 cs (by rw [eo]; omega) e5 hs0 (fun y hy => hsub y (List.mem_append_left _ hy)) hext2 ?_
   simpa using hsum2
  ·rw [e0, e2, e3, e4]
   have hext2 : ∀ y ∈ o ++ [x], depF ts y + depF ts up ≤ 6 := fun y hy => (List.mem_append.1 hy).elim (hext y) fun k => by rw [List.mem_singleton.1 k]; exact e7
   have hp := List.length_pos_iff.2 e5
   have hdrop : (kdF ts x).drop ((kdF ts x).length - 1 + 1) = [] := List.drop_eq_nil_of_le (by omega)
   have := gB_ok (ts := ts) (h := h) (up := up) (O := O) (X := X) (j := o.length) (zz := zz) (st0 := st0) (K := kdF ts x) (by omega) hkl hst0 (fun c' hc' => ?_) ((kdF ts x).length - 1) cs (by omega) (by rw [hdrop]; simpa using hs0)
   ·rw [hdrop] at this
    simpa using this
   ·rw [← eo]
    have hsub2 : ∀ y ∈ st0 ++ (kdF ts x).reverse, y ∈ lvT ts := fun y hy => by
     rcases List.mem_append.1 hy with k | k
     ·exact hsub y (List.mem_append_left _ k)
     ·rw [kd] at k
      exact (kids_memL.1 (List.mem_reverse.1 k)).1
    refine ih (o ++ [x]) (st0 ++ (kdF ts x).reverse) c' (by rw [eo]; omega) (fun e => e5 (by simpa using (List.append_eq_nil_iff.1 e).2)) hc' hsub2 hext2 ?_
    ·rw [List.reverse_append, List.reverse_reverse, List.flatMap_append, kd]
     exact hsum2
end
section
variable {ts u0 : Array Value} {h : Int}
theorem cI_ok (hf0 : FIn u0) (hf : FIn ts) (hh : h ∈ lvT u0) (hne : kdF u0 h ≠ []) : Good Tryd.prog (retOk 0 [] (rgS (cuN ts h u0 (UNL u0 h)) 0) e0M) 0 (cI_F ts h u0 (kdF u0 h).length (u32s (kdF u0 h)) (((kdF u0 h).length - 1 : Nat) : Int) (cuN ts h u0 [h]) zT) (cI_M ts h u0 (kdF u0 h).length (u32s (kdF u0 h)) (((kdF u0 h).length - 1 : Nat) : Int) (cuN ts h u0 [h]) zT) := by
  have hp := List.length_pos_iff.2 hne
  have hkl := kd_len u0 h
  have kd := kdF_eq hf0 hh
  have hsum : [h] ++ (([] : List Int) ++ (kdF u0 h).reverse).reverse.flatMap (UNL u0) = UNL u0 h := by
    rw [List.nil_append, List.reverse_reverse, kd, unl_cons hf0 hh]
    rfl
  have hA : ∀ cs, Stk cs (([] : List Int) ++ (kdF u0 h).reverse) → Good Tryd.prog (retOk 0 [] (rgS (cuN ts h u0 (UNL u0 h)) 0) e0M) 0 (cA_F (0 + 1) ts h u0 (cuN ts h u0 [h]) zT (([] : List Int) ++ (kdF u0 h).reverse).length cs) (cA_M (0 + 1) ts h u0 (cuN ts h u0 [h]) zT (([] : List Int) ++ (kdF u0 h).reverse).length cs) := fun cs hc =>
    cA_ok hf0 hf (lv_in hf0.ok (.inr hh)) hh zT_sz _ [h] _ cs (Nat.lt_succ_self _) (fun e => hne (by simpa using e)) hc (fun y hy => by
      rw [List.nil_append] at hy
      have hy := List.mem_reverse.1 hy
      rw [kd] at hy
      exact (kids_memL.1 hy).1) (fun y hy => by rw [List.mem_singleton.1 hy]; exact hh) hsum
  have hi : (kdF u0 h).length - 1 < (kdF u0 h).length := by omega
  have hk := u32s_at hi
  have hstk : Stk #[Value.int .u32 ((kdF u0 h).getD ((kdF u0 h).length - 1) 0)] [(kdF u0 h).getD ((kdF u0 h).length - 1) 0] := ⟨Nat.le_refl _, fun i hi => by
    obtain rfl : i = 0 := by simpa using hi
    rfl⟩
  have hlast : (kdF u0 h).drop ((kdF u0 h).length - 1) = [(kdF u0 h).getD ((kdF u0 h).length - 1) 0] := by
    rw [List.drop_eq_getElem_cons hi, List.drop_eq_nil_of_le (by omega), List.getD_eq_getElem?_getD, List.getElem?_eq_getElem hi]
    rfl
  refine past_vc Ecn_ok 1000 (cVI ts h u0 _ _ _ (cuN ts h u0 [h]) zT (cuN ts h u0 (UNL u0 h)) 0
    (fun u z n c => (u = cuN ts h u0 [h] ∧ z = zT) ∧ n = 1 ∧ (kdF u0 h).length = 1 ∧ c = #[Value.int .u32 ((kdF u0 h).getD ((kdF u0 h).length - 1) 0)])
    (fun i u z n c => i = (((kdF u0 h).length - 2 : Nat) : Int) ∧ (u = cuN ts h u0 [h] ∧ z = zT) ∧ n = 1 ∧ 2 ≤ (kdF u0 h).length ∧ c = #[Value.int .u32 ((kdF u0 h).getD ((kdF u0 h).length - 1) 0)])) ?_ (fun _ _ h => h)
    (fun fs m hg => cAB_good (fun u z n c ⟨⟨e1, e2⟩, e3, e4, e5⟩ => ?_) (fun i u z n c ⟨e0, ⟨e1, e2⟩, e3, e4, e5⟩ => ?_) hg)
  · have e : ari .sub .i64 (((kdF u0 h).length - 1 : Nat) : Int) 1 = (((kdF u0 h).length - 1 : Nat) : Int) - 1 := i64_sub1 ⟨by omega, by omega⟩
    have g1 : IsInt .u32 (u32s (kdF u0 h)) ((kdF u0 h).length - 1) := isI_of hk
    have g2 : intAt (u32s (kdF u0 h)) ((kdF u0 h).length - 1) = (kdF u0 h).getD ((kdF u0 h).length - 1) 0 := intAt_of hk
    have y0 : 0 ≤ (((kdF u0 h).length - 1 : Nat) : Int) := by omega
    have y1 : (((kdF u0 h).length - 1 : Nat) : Int) < ((kdF u0 h).length : Int) := by omega
    have t1 : TodoOk (ren 0 [(0, 0), (1, 1), (2, 2), (3, 3), (4, 4), (5, 5), (7, 7), (8, 8), (9, 16), (10, 10), (60, 11), (61, 12), (63, 14), (20, 13)]) cB_d1 cI_d1 := TodoOk.rf2 rfl (by kernel_rfl)
    have t2 : TodoOk (ren 0 [(0, 0), (1, 1), (2, 2), (3, 3), (4, 4), (5, 5), (7, 7), (8, 8), (9, 16), (10, 10), (60, 11), (61, 12), (63, 14), (20, 13)]) cA_d1 cA_d1 := TodoOk.rf rfl (by kernel_rfl)
    have t3 : TodoOk (ren 0 [(0, 0), (1, 1), (2, 2), (3, 3), (4, 4), (5, 5), (7, 7), (8, 8), (9, 16), (10, 10), (20, 13)]) cA_d1 cA_d1 := TodoOk.rf rfl (by kernel_rfl)
    simp only [e, g1, g2, y0, y1, t1, t2, t3, EqL_self, and_true, true_and, cA_d0_ok, cB_d0_ok, q7, cNt]
    refine ⟨fun k => ?_, fun k => ?_⟩
    · have := of_decide_eq_true k
      exact ⟨by omega, by omega⟩
    · have := of_decide_eq_false k
      omega
  · rw [e1, e2, e3, e5]
    have hx : (kdF u0 h).reverse = [(kdF u0 h).getD ((kdF u0 h).length - 1) 0] := by
      have := hlast
      rw [e4] at this ⊢
      have hd : (kdF u0 h).drop (1 - 1) = kdF u0 h := rfl
      rw [hd] at this
      rw [this]
      rfl
    have := hA _ (by rw [List.nil_append, hx]; exact hstk)
    rw [List.nil_append, hx] at this
    exact this
  · rw [e0, e1, e2, e3, e5]
    have hd : (kdF u0 h).length - 2 + 1 = (kdF u0 h).length - 1 := by omega
    have := cB_ok (ts := ts) (h := h) (u0 := u0) (O := (cuN ts h u0 (UNL u0 h))) (X := 0) (j := 0) (us := cuN ts h u0 [h]) (zz := zT) (st0 := []) (K := kdF u0 h) (by omega) hkl (Nat.zero_le _) hA ((kdF u0 h).length - 2) #[Value.int .u32 ((kdF u0 h).getD ((kdF u0 h).length - 1) 0)] (by omega) (by rw [hd, hlast]; exact hstk)
    rw [hd, hlast] at this
    exact this
theorem zero_bad (ts : Array Value) : gdF ts 0 = false := rfl
theorem cut_in (hf : FIn ts) (hg : gdF ts h = true) : FIn (raS ts h 0) ∧ bkB (raS ts h 0) = bkB ts ∧ (∀ x ∈ lvT ts, depL (upF (raS ts h 0)) x ≤ depL (upF ts) x) ∧ (∀ x, x = 0 ∨ x ∈ lvT ts → (h ∈ chL (upF (raS ts h 0)) x ↔ h ∈ chL (upF ts) x)) ∧ (∀ x, x = 0 ∨ x ∈ lvT ts → h ∈ chL (upF ts) x → rtL (upF (raS ts h 0)) x = h) := by
  have hb := hf.ok
  obtain ⟨r1, r2, r3, r4, r5⟩ := raS_f (u := 0) hb hg ⟨by decide, by decide⟩
  have hl := (lv_mem hb).2 hg
  have h0 : upF (raS ts h 0) h = 0 := by
    unfold upF
    rw [r3, zero_bad]
    simp
  have hu : ∀ x ∈ lvT ts, x ≠ h → upF (raS ts h 0) x = upF ts x := fun x hx hne => up_bk r2 (r4 x ((lv_mem hb).1 hx) hne)
  obtain ⟨c1, c2, c3, c4⟩ := cut_ch hf.fo hl h0 hu
  exact ⟨⟨r1, by rw [lv_bk r2]; exact c1⟩, r2, c2, c3, c4⟩
def cutT (ts : Array Value) (h : Int) : Array Value := if gdF ts h = true then cuN ts h (raS ts h 0) (UNL (raS ts h 0) h) else ts
def cutE (ts : Array Value) (h : Int) : Int := if gdF ts h = true then 0 else 4
theorem fnCut : E0.fn 14 = some Tryd.f14 := by kernel_rfl
theorem bodyCut : Tryd.f14.body = some (Tryd.f14.body.getD .skip) := by kernel_rfl
theorem cut_con (h : Int) (m : SMem) : Con E0 14 [tbS ts, u32 h] m (needs [FIn ts, inH h] (.ret (rgS (cutT ts h) (cutE ts h)) m)) := by
  refine Con.pure E0_ok fnCut bodyCut (by kernel_rfl) (by kernel_rfl) fun hq => ?_
  have hf : FIn ts := hq _ (by simp)
  have hb := hf.ok
  have hh : inH h := hq _ (by simp)
  have hh' : 0 ≤ h ∧ h < 4294967296 := hh
  have hs := hb.sz
  have n00 : ¬ ((0 : Int) ≠ 0 ∧ gdF ts 0 = false) := fun k => k.1 rfl
  have y4 : (0 : Int) < 4294967296 := by decide
  have y5 : (0 : Int) ≤ 0 := by decide
  refine (Good.ret [] (run_vc Ec0_ok 1000 (cV0 ts h (raS ts h 0) (kdF (raS ts h 0) h).length (u32s (kdF (raS ts h 0) h)) (cutT ts h) (cutE ts h) (fun i u z => i = (((kdF (raS ts h 0) h).length - 1 : Nat) : Int) ∧ u = cuN ts h (raS ts h 0) [h] ∧ z = zT ∧ kdF (raS ts h 0) h ≠ [] ∧ gdF ts h = true)) ?_ (fun s m h => h) fun fs m hm => cI_good (fun i u z ⟨e, e1, e2, e3, hg⟩ => by
    rw [e, e1, e2]
    obtain ⟨k1, k2, _⟩ := cut_in hf hg
    have hl : h ∈ lvT (raS ts h 0) := by rw [lv_bk k2]; exact (lv_mem hb).2 hg
    have eT : cutT ts h = cuN ts h (raS ts h 0) (UNL (raS ts h 0) h) := if_pos hg
    have eE : cutE ts h = 0 := if_pos hg
    rw [eT, eE]
    exact cI_ok k1 hf hl e3) hm)).mono fun _ _ h => h.1
  cases hg : gdF ts h with
  | false =>
    have e1 : raE ts h 0 = 4 := by unfold raE; rw [if_pos (.inl hg)]
    have e2 : raT ts h 0 = ts := by unfold raT; rw [if_neg (by rw [e1]; decide)]
    have e3 : cutT ts h = ts := by unfold cutT; rw [hg]; rfl
    have e4 : cutE ts h = 4 := by unfold cutE; rw [hg]; rfl
    have d : ((4 : Int) != 0) = true := rfl
    simp only [e1, e2, e3, e4, d, hs, hf, hh', y4, y5, q6]
  | true =>
    have e1 : raE ts h 0 = 0 := by
      unfold raE
      rw [if_neg (by rintro (k | k); · rw [hg] at k; cases k
                     · exact n00 k), ch_zero, if_neg (by simp)]
    have e2 : raT ts h 0 = raS ts h 0 := by unfold raT; rw [if_pos e1]
    have eT : cutT ts h = cuN ts h (raS ts h 0) (UNL (raS ts h 0) h) := if_pos hg
    have eE : cutE ts h = 0 := if_pos hg
    have d : ((0 : Int) != 0) = false := rfl
    obtain ⟨k1, k2, _⟩ := cut_in hf hg
    have hgu : gdF (raS ts h 0) h = true := by rw [gd_bk k2]; exact hg
    have hgu' : goodB (bkB (raS ts h 0)) h = true := hgu
    have hl : h ∈ lvT (raS ts h 0) := (lv_mem k1.ok).2 hgu
    have hs2 := k1.ok.sz
    have hb2 := k1.ok
    have hbk : BkOk (bkB (raS ts h 0)) := hb2.bk
    have h64 : (64 : Nat) ≤ 448 := by decide
    have hs3 := (em_f (ts := ts) (h := h) hb2 hgu).1.sz
    have eo : emT (raS ts h 0) ts h h = cuN ts h (raS ts h 0) [h] := rfl
    have hs4 : (cuN ts h (raS ts h 0) [h]).size = 448 := hs3
    have hkl := kd_len (raS ts h 0) h
    have kd := kdF_eq k1 hl
    simp only [bk_f, e1, e2, eT, eE, eo, d, hg, hgu, hgu', hs, hs2, hs3, hs4, hb2, hbk, h64, hf, hh', y4, y5, EqL_self, Bool.not_true, q6]
    constructor
    · intro k
      have ek := List.eq_nil_of_length_eq_zero (of_decide_eq_true k)
      rw [unl_cons k1 hl, ← kd, ek]
      rfl
    · intro k
      have hne : kdF (raS ts h 0) h ≠ [] := fun e => of_decide_eq_false k (by rw [e]; rfl)
      have hp := List.length_pos_iff.2 hne
      have e5 : ari .sub .i64 ((kdF (raS ts h 0) h).length : Int) 1 = (((kdF (raS ts h 0) h).length - 1 : Nat) : Int) := by rw [i64_sub1 ⟨by omega, by omega⟩]; omega
      have d5 : decide ((((kdF (raS ts h 0) h).length - 1 : Nat) : Int) ≥ 0) = true := decide_eq_true (by omega)
      simp only [e5, d5, cA_d1_ok0, cB_d0_ok, cI_d1_ok0, q6]
      first | exact hne | exact ⟨hne, TodoOk.rf rfl (by kernel_rfl)⟩
end
end Go.Proofs.YtdopckcockgefaaDoor
