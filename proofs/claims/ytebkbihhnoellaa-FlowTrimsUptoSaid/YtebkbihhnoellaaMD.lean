/- Of flow: FlowTrims: its states. -/
import Derived.Test.YtebkbihhnoellaaMC
set_option linter.unusedVariables false
set_option linter.unusedSimpArgs false
namespace Go.Proofs.Ytebkbihhnoellaa
set_option maxRecDepth 100000
theorem sR5_vc (off : Nat) (num : Nat) (cs : Array Value) (ty : TypeId) (a : Int) (b : Int) (QcT : Int → Nat → Nat → Nat → Array Value → Array Value → Array Value → Prop) : (sR5_t off num cs ty a b).vc ((boolR true)) (sR5_x off num cs ty a b QcT) =
    ((InsOk cs off num ∧ num ≠ (0 : Nat) ∧ num ≤ (1048576 : Nat) ∧ True) ∧ ((decide ((↑num : Int) > (200 : Int)) == false) = true → (RowOk (ofRow cs off num) (0 : Nat) num ∧ True) ∧ ((!mayV (ofRow cs off num) (0 : Nat) num) = true → true = true) ∧ ((!mayV (ofRow cs off num) (0 : Nat) num) = false → (InsOk cs off num ∧ mayV cs off num = true ∧ num ≠ (0 : Nat) ∧ True) ∧ (InsOk (trR cs off num) (0 : Nat) (cnt (metB cs off num) num) ∧ cnt (metB cs off num) num ≠ (0 : Nat) ∧ cnt (metB cs off num) num ≤ (1048576 : Nat) ∧ True) ∧ (RowOk (ofRow cs off num) (0 : Nat) num ∧ mayV (ofRow cs off num) (0 : Nat) num = true ∧ num ≠ (0 : Nat) ∧ True) ∧ (((↑(cnt (metB cs off num) num) : Int) != (↑(cnt (rchB (ofRow cs off num) (0 : Nat) num) num) : Int)) = true → false = true) ∧ (((↑(cnt (metB cs off num) num) : Int) != (↑(cnt (rchB (ofRow cs off num) (0 : Nat) num) num) : Int)) = false → QcT (0 : Int) num (cnt (metB cs off num) num) (cnt (rchB (ofRow cs off num) (0 : Nat) num) num) (ofRow cs off num) (ofRow (trR cs off num) (0 : Nat) (cnt (metB cs off num) num)) (twR (ofRow cs off num) (0 : Nat) num) ∧ CallKind.normal = CallKind.normal ∧ TodoOk (ren 1 [(1, 1), (2, 3), (3, 4)]) cT_d0 cT_d0 ∧ off = off ∧ num = num ∧ a = a ∧ num = num ∧ cnt (rchB (ofRow cs off num) (0 : Nat) num) num = cnt (rchB (ofRow cs off num) (0 : Nat) num) num ∧ b = b ∧ (0 : Int) = (0 : Int) ∧ cnt (metB cs off num) num = cnt (metB cs off num) num ∧ ty = ty ∧ cs = cs ∧ (46 : TypeId) = (46 : TypeId) ∧ ofRow cs off num = ofRow cs off num ∧ (46 : TypeId) = (46 : TypeId) ∧ twR (ofRow cs off num) (0 : Nat) num = twR (ofRow cs off num) (0 : Nat) num ∧ (46 : TypeId) = (46 : TypeId) ∧ ofRow (trR cs off num) (0 : Nat) (cnt (metB cs off num) num) = ofRow (trR cs off num) (0 : Nat) (cnt (metB cs off num) num) ∧ True))) ∧ ((decide ((↑num : Int) > (200 : Int)) == false) = false → true = true)) := by kernel_rfl
theorem jC5_vc (off : Nat) (num : Nat) (cs : Array Value) (ty : TypeId) (a : Int) (b : Int) (i : Int) (n : Nat) (k : Nat) (j : Nat) (rs : Array Value) (gs : Array Value) (ws : Array Value) (QcT : Int → Nat → Nat → Nat → Array Value → Array Value → Array Value → Prop) : (jC5_t off num cs ty a b i n k j rs gs ws).vc ((boolR true)) (jC5_x off num cs ty a b i n k j rs gs ws QcT) =
    ((decide (i < (↑k : Int)) = true → (((0 : Int) ≤ i ∧ i < (↑k : Int)) ∧ True) ∧ (IsInt IntKind.i64 gs ((0 : Nat) + Int.toNat i * 5) ∧ IsInt IntKind.i64 gs ((0 : Nat) + Int.toNat i * 5 + 1) ∧ IsInt IntKind.i64 gs ((0 : Nat) + Int.toNat i * 5 + 2) ∧ IsInt IntKind.i64 gs ((0 : Nat) + Int.toNat i * 5 + 3) ∧ IsInt IntKind.i64 gs ((0 : Nat) + Int.toNat i * 5 + 4) ∧ True) ∧ (((0 : Int) ≤ i ∧ i < (↑j : Int)) ∧ True) ∧ (IsInt IntKind.i64 ws ((0 : Nat) + Int.toNat i * 5) ∧ IsInt IntKind.i64 ws ((0 : Nat) + Int.toNat i * 5 + 1) ∧ IsInt IntKind.i64 ws ((0 : Nat) + Int.toNat i * 5 + 2) ∧ IsInt IntKind.i64 ws ((0 : Nat) + Int.toNat i * 5 + 3) ∧ IsInt IntKind.i64 ws ((0 : Nat) + Int.toNat i * 5 + 4) ∧ True) ∧ ((!(intAt gs ((0 : Nat) + Int.toNat i * 5) == intAt ws ((0 : Nat) + Int.toNat i * 5) && (intAt gs ((0 : Nat) + Int.toNat i * 5 + 1) == intAt ws ((0 : Nat) + Int.toNat i * 5 + 1) && (intAt gs ((0 : Nat) + Int.toNat i * 5 + 2) == intAt ws ((0 : Nat) + Int.toNat i * 5 + 2) && (intAt gs ((0 : Nat) + Int.toNat i * 5 + 3) == intAt ws ((0 : Nat) + Int.toNat i * 5 + 3) && intAt gs ((0 : Nat) + Int.toNat i * 5 + 4) == intAt ws ((0 : Nat) + Int.toNat i * 5 + 4)))))) = true → false = true) ∧ ((!(intAt gs ((0 : Nat) + Int.toNat i * 5) == intAt ws ((0 : Nat) + Int.toNat i * 5) && (intAt gs ((0 : Nat) + Int.toNat i * 5 + 1) == intAt ws ((0 : Nat) + Int.toNat i * 5 + 1) && (intAt gs ((0 : Nat) + Int.toNat i * 5 + 2) == intAt ws ((0 : Nat) + Int.toNat i * 5 + 2) && (intAt gs ((0 : Nat) + Int.toNat i * 5 + 3) == intAt ws ((0 : Nat) + Int.toNat i * 5 + 3) && intAt gs ((0 : Nat) + Int.toNat i * 5 + 4) == intAt ws ((0 : Nat) + Int.toNat i * 5 + 4)))))) = false → QcT (ari BinOp.add IntKind.i64 i (1 : Int)) n k j rs gs ws ∧ CallKind.normal = CallKind.normal ∧ TodoOk (ren 1 [(1, 1), (2, 2), (3, 3)]) cT_d0 cT_d0 ∧ off = off ∧ num = num ∧ a = a ∧ n = n ∧ j = j ∧ b = b ∧ ari BinOp.add IntKind.i64 i (1 : Int) = ari BinOp.add IntKind.i64 i (1 : Int) ∧ k = k ∧ ty = ty ∧ cs = cs ∧ (46 : TypeId) = (46 : TypeId) ∧ rs = rs ∧ (46 : TypeId) = (46 : TypeId) ∧ ws = ws ∧ (46 : TypeId) = (46 : TypeId) ∧ gs = gs ∧ True)) ∧ (decide (i < (↑k : Int)) = false → (InsOk cs off num ∧ mayV cs off num = true ∧ True) ∧ (RowOk rs (0 : Nat) n ∧ n ≤ (64 : Nat) ∧ True) ∧ (((rlB cs off num a b == rrB rs (0 : Nat) n a b) == true) = true → true = true) ∧ (((rlB cs off num a b == rrB rs (0 : Nat) n a b) == true) = false → false = true))) := by kernel_rfl
end Go.Proofs.Ytebkbihhnoellaa
/- Of flow: FlowTrims of a row that is not empty: its run. No condition. -/
namespace Go.Proofs.Ytebkbihhnoellaa
set_option linter.unusedSectionVars false
set_option maxRecDepth 100000
theorem ETr_ok : EnvOk ETr := EnvOk.with E0_ok _ _ conT_ok
section
variable {off num : Nat} {cs : Array Value} (hI : InsOk cs off num) (hM : mayV cs off num = true)
include hI hM
theorem met_row {i : Nat} (hi : i ≤ num) : metB cs off num i = rchB (ofRow cs off num) 0 num i := met_rch hI hM (of_row hI).2 hi
theorem cnt_row {i : Nat} (hi : i ≤ num) : cnt (metB cs off num) i = cnt (rchB (ofRow cs off num) 0 num) i := cnt_congr fun j hj => met_row hI hM (by omega)
theorem tr_at {i : Nat} (hi : i < num) (hf : metB cs off num i = true) : InsAt (trR cs off num) (0 + cnt (metB cs off num) i * 5) ∧ ins (trR cs off num) 0 (cnt (metB cs off num) i) = trimI (metB cs off num) (ins cs off i) := by
  have key : ∀ t, t < 5 → (trR cs off num)[cnt (metB cs off num) i * 5 + t]? = (fiveI (trimI (metB cs off num) (ins cs off i)))[t]? := fun t ht => by
    unfold trR
    rw [List.getElem?_toArray]
    exact grow_at (g := fun j => fiveI (trimI (metB cs off num) (ins cs off j))) (fun _ => rfl) hf ht hi
  generalize trimI (metB cs off num) (ins cs off i) = x at *
  have c0 := key 0 (by omega)
  have c1 := key 1 (by omega)
  have c2 := key 2 (by omega)
  have c3 := key 3 (by omega)
  have c4 := key 4 (by omega)
  unfold ins
  rw [Nat.zero_add]
  exact ⟨⟨isI_of c0, isI_of c1, isI_of c2, isI_of c3, isI_of c4⟩, Ins.ext' (intAt_of c0) (intAt_of c1) (intAt_of c2) (intAt_of c3) (intAt_of c4)⟩
theorem tr_ok : InsOk (trR cs off num) 0 (cnt (metB cs off num) num) := by
  have n64 := (mayV_iff.1 hM).1
  have hc := cnt_le (metB cs off num) num
  refine ⟨by omega, fun j hj => ?_⟩
  obtain ⟨i, hi, hf, rfl⟩ := cnt_sur hj
  obtain ⟨h1, h2⟩ := tr_at hI hM hi hf
  exact ⟨h1, by rw [h2]; exact trimI_in (hI.2 i hi).2⟩
theorem trim_row {i : Nat} (hi : i < num) : trimI (metB cs off num) (ins cs off i) = trimI (rchB (ofRow cs off num) 0 num) (ins (ofRow cs off num) 0 i) := by
  rw [(of_row hI).2 i hi]
  obtain ⟨_, _, _, _, k5⟩ := Ins.okN_iff.1 ((mayV_iff.1 hM).2 i hi)
  unfold trimI
  split
  · rw [cnt_row hI hM (show (ins cs off i).n.toNat ≤ num by omega)]
  · rfl
theorem tw_at {i : Nat} (hi : i < num) (hf : metB cs off num i = true) : (IsInt .i64 (twR (ofRow cs off num) 0 num) (0 + cnt (metB cs off num) i * 5) ∧ IsInt .i64 (twR (ofRow cs off num) 0 num) (0 + cnt (metB cs off num) i * 5 + 1) ∧ IsInt .i64 (twR (ofRow cs off num) 0 num) (0 + cnt (metB cs off num) i * 5 + 2) ∧ IsInt .i64 (twR (ofRow cs off num) 0 num) (0 + cnt (metB cs off num) i * 5 + 3) ∧ IsInt .i64 (twR (ofRow cs off num) 0 num) (0 + cnt (metB cs off num) i * 5 + 4)) ∧
    ins (twR (ofRow cs off num) 0 num) 0 (cnt (metB cs off num) i) = trimI (metB cs off num) (ins cs off i) := by
  have hf' : rchB (ofRow cs off num) 0 num i = true := by rw [← met_row hI hM (by omega)]; exact hf
  have key : ∀ t, t < 5 → (twR (ofRow cs off num) 0 num)[cnt (metB cs off num) i * 5 + t]? = (fiveJ (trimI (metB cs off num) (ins cs off i)))[t]? := fun t ht => by
    unfold twR
    rw [List.getElem?_toArray, trim_row hI hM hi, cnt_row hI hM (by omega)]
    exact grow_at (g := gW (ofRow cs off num) 0 num) (fun _ => rfl) hf' ht hi
  generalize trimI (metB cs off num) (ins cs off i) = x at *
  have c0 := key 0 (by omega)
  have c1 := key 1 (by omega)
  have c2 := key 2 (by omega)
  have c3 := key 3 (by omega)
  have c4 := key 4 (by omega)
  unfold ins
  rw [Nat.zero_add]
  exact ⟨⟨isI_of c0, isI_of c1, isI_of c2, isI_of c3, isI_of c4⟩, Ins.ext' (intAt_of c0) (intAt_of c1) (intAt_of c2) (intAt_of c3) (intAt_of c4)⟩
end
theorem mayv_row {cs : Array Value} {off num : Nat} (hI : InsOk cs off num) : mayV (ofRow cs off num) 0 num = mayV cs off num := by
  obtain ⟨_, h⟩ := of_row hI
  rw [Bool.eq_iff_iff, mayV_iff, mayV_iff]
  exact ⟨fun ⟨a, b⟩ => ⟨a, fun i hi => by rw [← h i hi]; exact b i hi⟩, fun ⟨a, b⟩ => ⟨a, fun i hi => by rw [h i hi]; exact b i hi⟩⟩
theorem ins_eq {cs ds : Array Value} {a b i j : Nat} (h : ins cs a i = ins ds b j) : intAt cs (a + i * 5) = intAt ds (b + j * 5) ∧ intAt cs (a + i * 5 + 1) = intAt ds (b + j * 5 + 1) ∧ intAt cs (a + i * 5 + 2) = intAt ds (b + j * 5 + 2) ∧ intAt cs (a + i * 5 + 3) = intAt ds (b + j * 5 + 3) ∧ intAt cs (a + i * 5 + 4) = intAt ds (b + j * 5 + 4) := by
  unfold ins at h
  injection h with h1 h2 h3 h4 h5
  exact ⟨h1, h2, h3, h4, h5⟩
noncomputable def trC (off num : Nat) (a b : Int) : List SFr := [callFr 5 Try.f5.ntmps [prS off num, i64 (.o a), i64 (.o b)] (Try.f5.body.getD .skip)]
section
variable (off num : Nat) (cs : Array Value) (ty : TypeId) (a b : Int) (hI : InsOk cs off num) (h0 : num ≠ 0)
include hI h0
theorem cT_round (hM : mayV cs off num = true) : ∀ (K i : Nat), cnt (metB cs off num) num - i < K → i ≤ cnt (metB cs off num) num → Good Try.prog (boolR true) 1 (cT_F off num cs ty a b i num (cnt (metB cs off num) num) (cnt (metB cs off num) num) (ofRow cs off num) (ofRow (trR cs off num) 0 (cnt (metB cs off num) num)) (twR (ofRow cs off num) 0 num)) (cT_M off num cs ty a b i num (cnt (metB cs off num) num) (cnt (metB cs off num) num) (ofRow cs off num) (ofRow (trR cs off num) 0 (cnt (metB cs off num) num)) (twR (ofRow cs off num) 0 num)) := by
  have n64 := (mayV_iff.1 hM).1
  have hc := cnt_le (metB cs off num) num
  obtain ⟨hR, hr2⟩ := of_row hI
  obtain ⟨hG, hg2⟩ := of_row (tr_ok hI hM)
  intro K
  induction K with
  | zero => intro i h; omega
  | succ K ih =>
    intro i hK hi
    refine past_vc ETr_ok 1000 (jC5_vc off num cs ty a b i num (cnt (metB cs off num) num) (cnt (metB cs off num) num) (ofRow cs off num) (ofRow (trR cs off num) 0 (cnt (metB cs off num) num)) (twR (ofRow cs off num) 0 num)
      (fun i' n' k' j' rs' gs' ws' => i' = (i + 1 : Nat) ∧ n' = num ∧ k' = cnt (metB cs off num) num ∧ j' = cnt (metB cs off num) num ∧ rs' = ofRow cs off num ∧ gs' = ofRow (trR cs off num) 0 (cnt (metB cs off num) num) ∧ ws' = twR (ofRow cs off num) 0 num ∧ i < cnt (metB cs off num) num)) ?_ (fun _ _ h => h)
      (fun fs m hb => jC5_go (fun i' n' k' j' rs' gs' ws' h => ?_) hb)
    · rw [i64_add1 (show i < 1000 by omega), Int.toNat_natCast]
      by_cases d : i < cnt (metB cs off num) num
      · have e1 : decide ((i : Int) < ((cnt (metB cs off num) num : Nat) : Int)) = true := decide_eq_true (by omega)
        have w1 : (0 : Int) ≤ (i : Int) ∧ (i : Int) < ((cnt (metB cs off num) num : Nat) : Int) := by omega
        obtain ⟨g1, g2, g3, g4, g5⟩ := hG.2 i d
        have hgi := hg2 i d
        obtain ⟨p, hp, hf, rfl⟩ := cnt_sur d
        obtain ⟨⟨u1, u2, u3, u4, u5⟩, hw⟩ := tw_at hI hM hp hf
        have htr := (tr_at hI hM hp hf).2
        obtain ⟨q1, q2, q3, q4, q5⟩ := ins_eq (hgi.trans (htr.trans hw.symm))
        rw [q1, q2, q3, q4, q5]
        simp only [e1, decide_true, w1, d, g1, g2, g3, g4, g5, u1, u2, u3, u4, u5, beq_self_eq_true, Bool.and_true, Bool.not_true, Bool.not_false, Bool.true_eq_false, Bool.false_eq_true, false_implies, true_implies, true_and, and_true, cT_d0_ok]
      · have e1 : decide ((i : Int) < ((cnt (metB cs off num) num : Nat) : Int)) = false := decide_eq_false (by omega)
        have hrr := rl_rr hI hM hr2 a b
        simp only [e1, hI, hM, hR, n64, hrr, beq_self_eq_true, Bool.true_eq_false, Bool.false_eq_true, false_implies, true_implies, true_and, and_true]
    · obtain ⟨rfl, rfl, rfl, rfl, rfl, rfl, rfl, h⟩ := h
      exact ih (i + 1) (by omega) (by omega)
theorem trims_good (hn : num ≤ 1048576) : Good Try.prog (boolR true) 1 (trC off num a b) (rawM cs ty) := by
  obtain ⟨hR, hr2⟩ := of_row hI
  have hmo := mayv_row hI
  refine run_vc ETr_ok 8000 (sR5_vc off num cs ty a b
    (fun i' n' k' j' rs' gs' ws' => i' = (0 : Nat) ∧ n' = num ∧ k' = cnt (metB cs off num) num ∧ j' = cnt (metB cs off num) num ∧ rs' = ofRow cs off num ∧ gs' = ofRow (trR cs off num) 0 (cnt (metB cs off num) num) ∧ ws' = twR (ofRow cs off num) 0 num ∧ mayV cs off num = true)) ?_ (fun _ _ h => h)
    (fun fs m hb => sR5_go (fun i' n' k' j' rs' gs' ws' h => ?_) hb)
  · refine ⟨⟨hI, h0, hn, trivial⟩, fun h2 => ⟨⟨hR, trivial⟩, fun _ => rfl, fun hm => ?_⟩, fun _ => rfl⟩
    have hM : mayV cs off num = true := by rw [← hmo]; simpa using hm
    have n64 := (mayV_iff.1 hM).1
    have hc := cnt_le (metB cs off num) num
    have hp := cnt_lt (met0 off num cs hI hM h0) (show 0 < num by omega)
    rw [← cnt_row hI hM (Nat.le_refl _)]
    have hne : ((((cnt (metB cs off num) num : Nat) : Int)) != ((cnt (metB cs off num) num : Nat) : Int)) = false := by simp
    rw [hmo]
    simp only [hne, hI, hM, hR, h0, tr_ok hI hM, Bool.true_eq_false, Bool.false_eq_true, false_implies, true_implies, true_and, and_true, ne_eq, not_false_eq_true, cT_d0_ok]
    refine ⟨⟨?_, ?_⟩, rfl⟩ <;> omega
  · obtain ⟨rfl, rfl, rfl, rfl, rfl, rfl, rfl, hM⟩ := h
    exact cT_round off _ cs ty a b hI h0 hM _ 0 (Nat.lt_succ_self _) (Nat.zero_le _)
end
end Go.Proofs.Ytebkbihhnoellaa
