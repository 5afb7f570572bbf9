/- Of mark: the law's acts. No condition. -/
import Derived.Test.YtdbhbpkdefbibaaM12
namespace Go.Proofs.Ytdbhbpkdefbibaa

def actsS (off n : Nat) : SV := .s (.c (.f (.slice 0 (.o off) (.o n) .any)))
def oneD (ds : Array Value) (ty : TypeId) : SMem := ⟨1, [⟨0, .raw ds, ty, false⟩]⟩
noncomputable def turnsTodo : List Item := (run E5 1000 ⟨4, padN Try.f4.ntmps [some (actsS 0 0), some (i64 (.o 0))], [.code (Try.f4.body.getD .skip)], 1⟩ (oneD #[] 0)).todo
noncomputable def actsI (off n : Nat) (s : Int) (k : Nat) (td : List Item) : SFr :=
  ⟨4, tmOf Try.f4.ntmps [(0, actsS off n), (1, i64 (.o s)), (5, ptr 1 (.l 0)), (6, i64 (.o k))], td, 1⟩
def actsM (ds : Array Value) (ty : TypeId) (cs : Array Value) : SMem := ⟨2, [⟨0, .raw ds, ty, false⟩, ⟨1, .op cs, 29, true⟩]⟩
def actAt (ds : Array Value) (off k : Nat) : Array Value := ds.extract (off + (k : Int).toNat * 3) (off + (k : Int).toNat * 3 + 3)
def aPre (ds : Array Value) (off n k : Nat) (R : Prop) : Prop :=
  decide ((k : Int) < n) = true ∧ ((0 ≤ (k : Int) ∧ (k : Int) < n) ∧ True) ∧ (off + (k : Int).toNat * 3 + 3 ≤ ds.size ∧ AllOneIn ds (off + (k : Int).toNat * 3) 3 ∧ True) ∧ ((actAt ds off k).size = 3 ∧ (actAt ds off k).size = 3 ∧ True) ∧ (IsInt .u8 (actAt ds off k) 0 ∧ True) ∧ R
def aEnd (ds : Array Value) (off n : Nat) (s : Int) (ty : TypeId) (k : Nat) (cs X Y : Array Value) : Prop :=
  (IsM cs ∧ True) ∧ (Y.size = 352 ∧ Y.size = cs.size ∧ True) ∧ TodoOk (headL turnsTodo) (headL turnsTodo) ∧ off = off ∧ n = n ∧ s = s ∧ ((k + 1 : Nat) : Int) = IntKind.i64.wrap (k + 1) ∧ ty = ty ∧ ds = ds ∧ (29 : Nat) = 29 ∧ X = Y ∧ True
section
variable (ds cs X : Array Value) (s : Int) (off n k : Nat) (ty : TypeId)
theorem law_n1 : (run E5 1000 ⟨4, padN Try.f4.ntmps [some (actsS off n), some (i64 (.o s))], [.code (Try.f4.body.getD .skip)], 1⟩ (oneD ds ty)).follow (retOk 1 [] (sB (.l true)) (oneD ds ty)) (fun _ _ => False) [false] =
    ((decide ((n : Int) > 200) == false) = false ∧ ty = ty ∧ ds = ds ∧ True) := by kernel_rfl
theorem law_n2 : (run E5 1000 ⟨4, padN Try.f4.ntmps [some (actsS off n), some (i64 (.o s))], [.code (Try.f4.body.getD .skip)], 1⟩ (oneD ds ty)).follow (retOk 1 [] (sB (.l true)) (oneD ds ty)) (fun _ _ => False) [true, false] =
    ((decide ((n : Int) > 200) == false) = true ∧ (decide (s < 0) == false) = false ∧ ty = ty ∧ ds = ds ∧ True) := by kernel_rfl
theorem law_n3 : (run E5 1000 ⟨4, padN Try.f4.ntmps [some (actsS off n), some (i64 (.o s))], [.code (Try.f4.body.getD .skip)], 1⟩ (oneD ds ty)).follow (retOk 1 [] (sB (.l true)) (oneD ds ty)) (fun _ _ => False) [true, true, true] =
    ((decide ((n : Int) > 200) == false) = true ∧ (decide (s < 0) == false) = true ∧ decide (s > 31) = true ∧ ty = ty ∧ ds = ds ∧ True) := by kernel_rfl
theorem law_y : (run E5 1000 ⟨4, padN Try.f4.ntmps [some (actsS off n), some (i64 (.o s))], [.code (Try.f4.body.getD .skip)], 1⟩ (oneD ds ty)).follow (fun _ _ => False) (subOk [(1, 1)] (actsI off n s 0 turnsTodo) (actsM ds ty zeroA)) [true, true, false] =
    ((decide ((n : Int) > 200) == false) = true ∧ (decide (s < 0) == false) = true ∧ decide (s > 31) = false ∧ TodoOk turnsTodo turnsTodo ∧ off = off ∧ n = n ∧ s = s ∧ ((0 : Nat) : Int) = 0 ∧ ty = ty ∧ ds = ds ∧ (29 : Nat) = 29 ∧ zeroA = zeroA ∧ True) := by kernel_rfl
noncomputable abbrev actF (p : List Bool) : Prop :=
  (stepT E5.go (run E5 1000) (actsI off n s k (headL turnsTodo)) (actsM ds ty cs) (actsI off n s k (headL turnsTodo)).todo).follow (fun _ _ => False) (subOk [(1, 1)] (actsI off n s (k + 1) (headL turnsTodo)) (actsM ds ty X)) p
theorem act_free : actF ds cs X s off n k ty [true, true] = aPre ds off n k ((intAt (actAt ds off k) 0 == 0) = true ∧ (cs.size = 352 ∧ True) ∧ (IsInt .i64 (actAt ds off k) 1 ∧ True) ∧ (IsInt .i64 (actAt ds off k) 2 ∧ True) ∧
    aEnd ds off n s ty k cs X (freeM cs (intAt (actAt ds off k) 1) (intAt (actAt ds off k) 2))) := by kernel_rfl
theorem act_gone : actF ds cs X s off n k ty [true, false, true] = aPre ds off n k ((intAt (actAt ds off k) 0 == 0) = false ∧ (intAt (actAt ds off k) 0 == 1) = true ∧ (cs.size = 352 ∧ True) ∧ (IsInt .i64 (actAt ds off k) 2 ∧ True) ∧
    aEnd ds off n s ty k cs X (goneM cs (intAt (actAt ds off k) 2))) := by kernel_rfl
theorem act_try : actF ds cs X s off n k ty [true, false, false] = aPre ds off n k ((intAt (actAt ds off k) 0 == 0) = false ∧ (intAt (actAt ds off k) 0 == 1) = false ∧ (cs.size = 352 ∧ True) ∧ (IsInt .i64 (actAt ds off k) 1 ∧ True) ∧ (IsInt .i64 (actAt ds off k) 2 ∧ True) ∧
    aEnd ds off n s ty k cs X (tryM cs (intAt (actAt ds off k) 1) (intAt (actAt ds off k) 2))) := by kernel_rfl
end

/-- Acts that may be read. -/
def ActsOk (ds : Array Value) (off n : Nat) : Prop := (0 < n → off + n * 3 ≤ ds.size) ∧ ∀ k, k < n → IsInt .u8 ds (off + k * 3) ∧ IsInt .i64 ds (off + k * 3 + 1) ∧ IsInt .i64 ds (off + k * 3 + 2)
theorem isM_try {h : Nat → Option Nat} {l : Nat → List Nat} (F : Fine h l) (s t : Int) : ∃ h' l', Fine h' l' ∧ tryM (mk h l) s t = mk h' l' := by
  unfold tryM
  rw [hOf_eq F, lOf_eq F]
  by_cases e : tryOn s t = true
  · rw [if_pos e]
    unfold tryOn at e
    have e := of_decide_eq_true e
    exact ⟨_, _, F.try (by omega) (by omega), rfl⟩
  · rw [if_neg e]; exact ⟨_, _, F, rfl⟩
theorem isM_free {h : Nat → Option Nat} {l : Nat → List Nat} (F : Fine h l) (s t : Int) : ∃ h' l', Fine h' l' ∧ freeM (mk h l) s t = mk h' l' := by
  unfold freeM
  rw [hOf_eq F, lOf_eq F]
  by_cases e : freeOn s t = true
  · rw [if_pos e]; exact ⟨_, _, F.free _ _, rfl⟩
  · rw [if_neg e]; exact ⟨_, _, F, rfl⟩
theorem isM_gone {h : Nat → Option Nat} {l : Nat → List Nat} (F : Fine h l) (t : Int) : ∃ h' l', Fine h' l' ∧ goneM (mk h l) t = mk h' l' := by
  unfold goneM
  rw [hOf_eq F, lOf_eq F]
  by_cases e : goneOn t = true
  · rw [if_pos e]; exact ⟨_, _, F.gone _ _, rfl⟩
  · rw [if_neg e]; exact ⟨_, _, F, rfl⟩
theorem act_get {ds : Array Value} {off n k c : Nat} (h : off + n * 3 ≤ ds.size) (hk : k < n) (hc : c < 3) : (actAt ds off k)[c]? = ds[off + k * 3 + c]? := by
  unfold actAt
  rw [Array.getElem?_extract, if_pos (by omega), show off + (k : Int).toNat * 3 + c = off + k * 3 + c by omega]
theorem act_int {κ : IntKind} {ds : Array Value} {off n k c : Nat} (h : off + n * 3 ≤ ds.size) (hk : k < n) (hc : c < 3) (hi : IsInt κ ds (off + k * 3 + c)) : IsInt κ (actAt ds off k) c := by
  unfold IsInt intAt at hi ⊢
  rw [act_get h hk hc]
  exact hi
theorem act_one {ds : Array Value} {off n k : Nat} (h : off + n * 3 ≤ ds.size) (hk : k < n) (q0 : IsInt .u8 ds (off + k * 3)) (q1 : IsInt .i64 ds (off + k * 3 + 1)) (q2 : IsInt .i64 ds (off + k * 3 + 2)) :
    AllOneIn ds (off + (k : Int).toNat * 3) 3 := by
  intro v hv
  obtain ⟨i, hi, e⟩ := List.getElem_of_mem hv
  have hi' : i < 3 := by
    rw [Array.length_toList, Array.size_extract] at hi
    omega
  have hg : (actAt ds off k)[i]? = some v := by
    show (ds.extract (off + (k : Int).toNat * 3) (off + (k : Int).toNat * 3 + 3))[i]? = some v
    rw [← Array.getElem?_toList, List.getElem?_eq_getElem hi, e]
  rw [act_get h hk hi'] at hg
  rcases (by omega : i = 0 ∨ i = 1 ∨ i = 2) with rfl | rfl | rfl
  · rw [Nat.add_zero, q0] at hg; cases hg; rfl
  · rw [q1] at hg; cases hg; rfl
  · rw [q2] at hg; cases hg; rfl
theorem acts_loop {ds : Array Value} {off n : Nat} {s : Int} {ty : TypeId} (hd : ActsOk ds off n) (hn : n ≤ 200) {A : SV → SMem → Prop}
    (hg : ∀ h l, Fine h l → Good Try.prog A (actsI off n s n (headL turnsTodo)) (actsM ds ty (mk h l))) : ∀ r k h l, k + r = n → Fine h l → Good Try.prog A (actsI off n s k (headL turnsTodo)) (actsM ds ty (mk h l)) := by
  intro r
  induction r with
  | zero =>
    intro k h l hk F
    have e : k = n := by omega
    rw [e]
    exact hg h l F
  | succ r ih =>
    intro k h l hk F
    obtain ⟨d1, d2⟩ := hd
    have d1 := d1 (by omega)
    obtain ⟨q0, q1, q2⟩ := d2 k (by omega)
    have i0 : IsInt .u8 (actAt ds off k) 0 := act_int d1 (by omega) (by omega) q0
    have i1 : IsInt .i64 (actAt ds off k) 1 := act_int d1 (by omega) (by omega) q1
    have i2 : IsInt .i64 (actAt ds off k) 2 := act_int d1 (by omega) (by omega) q2
    have hs : (actAt ds off k).size = 3 := by unfold actAt; rw [Array.size_extract]; omega
    have pre : ∀ {R : Prop}, R → aPre ds off n k R := fun hR => ⟨decide_eq_true (by omega), ⟨⟨by omega, by omega⟩, trivial⟩, ⟨by omega, act_one d1 (by omega) q0 q1 q2, trivial⟩, ⟨hs, hs, trivial⟩, ⟨i0, trivial⟩, hR⟩
    have fin : ∀ {Y : Array Value} {h' : Nat → Option Nat} {l' : Nat → List Nat}, Y = mk h' l' → aEnd ds off n s ty k (mk h l) (mk h' l') Y := fun e =>
      ⟨⟨⟨h, l, F, rfl⟩, trivial⟩, ⟨by rw [e, mk_size], by rw [e, mk_size, mk_size], trivial⟩, rfl, rfl, rfl, rfl, (wrap64_of (by omega) (by omega)).symm, rfl, rfl, rfl, e.symm, trivial⟩
    have hz : (mk h l).size = 352 ∧ True := ⟨mk_size h l, trivial⟩
    by_cases c0 : (intAt (actAt ds off k) 0 == 0) = true
    · obtain ⟨h', l', F', e⟩ := isM_free F (intAt (actAt ds off k) 1) (intAt (actAt ds off k) 2)
      exact past_way E5_ok 1000 (A := fun _ _ => False) (B := subOk [(1, 1)] (actsI off n s (k + 1) (headL turnsTodo)) (actsM ds ty (mk h' l'))) (act_free ds (mk h l) (mk h' l') s off n k ty) (pre ⟨c0, hz, ⟨i1, trivial⟩, ⟨i2, trivial⟩, fin e⟩) (fun _ _ h => h.elim) (fun f m hb => Good.of_sub hb (ih (k + 1) h' l' (by omega) F'))
    · have c0 : (intAt (actAt ds off k) 0 == 0) = false := by simpa using c0
      by_cases c1 : (intAt (actAt ds off k) 0 == 1) = true
      · obtain ⟨h', l', F', e⟩ := isM_gone F (intAt (actAt ds off k) 2)
        exact past_way E5_ok 1000 (A := fun _ _ => False) (B := subOk [(1, 1)] (actsI off n s (k + 1) (headL turnsTodo)) (actsM ds ty (mk h' l'))) (act_gone ds (mk h l) (mk h' l') s off n k ty) (pre ⟨c0, c1, hz, ⟨i2, trivial⟩, fin e⟩) (fun _ _ h => h.elim) (fun f m hb => Good.of_sub hb (ih (k + 1) h' l' (by omega) F'))
      · have c1 : (intAt (actAt ds off k) 0 == 1) = false := by simpa using c1
        obtain ⟨h', l', F', e⟩ := isM_try F (intAt (actAt ds off k) 1) (intAt (actAt ds off k) 2)
        exact past_way E5_ok 1000 (A := fun _ _ => False) (B := subOk [(1, 1)] (actsI off n s (k + 1) (headL turnsTodo)) (actsM ds ty (mk h' l'))) (act_try ds (mk h l) (mk h' l') s off n k ty) (pre ⟨c0, c1, hz, ⟨i1, trivial⟩, ⟨i2, trivial⟩, fin e⟩) (fun _ _ h => h.elim) (fun f m hb => Good.of_sub hb (ih (k + 1) h' l' (by omega) F'))
end Go.Proofs.Ytdbhbpkdefbibaa
