/- Of forests: Cut: the walk's rounds. No condition. -/
import Derived.Test.YtklhlkdpidkijaaDoorMB
set_option linter.unusedVariables false
set_option linter.unusedSimpArgs false
namespace Go.Proofs.YtklhlkdpidkijaaDoor
set_option maxRecDepth 100000
set_option linter.unusedSimpArgs false
set_option linter.unusedVariables false
theorem Ec0_ok : EnvOk Ec0 := EnvOk.with E0_ok _ _ conT4_ok
theorem Ecn_ok : EnvOk Ecn := EnvOk.with E0_ok _ _ conT4_ok
section
variable {ts u0 : Array Value} {h : Int}
def cuN (ts : Array Value) (h : Int) (u : Array Value) (o : List Int) : Array Value := o.foldl (fun us x => emT us ts h x) u
theorem cuN_one (u : Array Value) (o : List Int) (x : Int) : cuN ts h u (o ++ [x]) = emT (cuN ts h u o) ts h x := by unfold cuN; rw [List.foldl_append]; rfl
theorem em_f {u : Array Value} (hb : TbOk u) {x : Int} (hx : gdF u x = true) : TbOk (emT u ts h x) ∧ bkB (emT u ts h x) = bkB u ∧ ∀ y, gdF u y = true → upR (emT u ts h x) y = upR u y ∧ quF (emT u ts h x) y = quF u y ∧ ∀ k, k < 8 → ceF (emT u ts h x) y k = if y = x then clC ts h (ceF u y k) else ceF u y k := by
 obtain ⟨i1, i2, i3⟩ := rg_in hb hx
 obtain ⟨r1, r2, r3, r4⟩ := rgT_f (u := upR u x) (q := quF u x) (c := fun k => clC ts h (ceF u x k)) hb hx i1 i2 (fun k hk => cl_in (i3 k hk))
 refine ⟨r1, r2, fun y hy => ?_⟩
 by_cases e : y = x
 ·rw [e]
  exact ⟨r3.1, r3.2.1, fun k hk => by rw [if_pos rfl]; exact r3.2.2 k hk⟩
 ·obtain ⟨a, b, c⟩ := r4 y hy e
  exact ⟨a, b, fun k hk => by rw [if_neg e]; exact c k hk⟩
theorem cl_cl (c : Int) : clC ts h (clC ts h c) = clC ts h c := by
 by_cases k : c ≠ h ∧ outF ts c h = true
 ·have e : clC ts h c = 0 := if_pos k
  rw [e]
  unfold clC
  split <;> rfl
 ·have e : clC ts h c = c := if_neg k
  rw [e, e]
theorem cu_f : ∀ (o : List Int) {u : Array Value}, TbOk u → (∀ x ∈ o, gdF u x = true) → TbOk (cuN ts h u o) ∧ bkB (cuN ts h u o) = bkB u ∧ ∀ y, gdF u y = true → upR (cuN ts h u o) y = upR u y ∧ quF (cuN ts h u o) y = quF u y ∧ ∀ k, k < 8 → ceF (cuN ts h u o) y k = if y ∈ o then clC ts h (ceF u y k) else ceF u y k
 | [], u, hb, _ => ⟨hb, rfl, fun y _ => ⟨rfl, rfl, fun k _ => by simp [cuN]⟩⟩
 | x :: o, u, hb, hg => by
  obtain ⟨h1, h2, h3⟩ := em_f (ts := ts) (h := h) hb (hg x (List.mem_cons_self ..))
  obtain ⟨k1, k2, k3⟩ := cu_f o h1 (fun y hy => by rw [gd_bk h2]; exact hg y (List.mem_cons_of_mem _ hy))
  refine ⟨k1, k2.trans h2, fun y hy => ?_⟩
  obtain ⟨a1, a2, a3⟩ := h3 y hy
  obtain ⟨b1, b2, b3⟩ := k3 y (by rw [gd_bk h2]; exact hy)
  refine ⟨b1.trans a1, b2.trans a2, fun k hk => ?_⟩
  show ceF (cuN ts h (emT u ts h x) o) y k = _
  rw [b3 k hk, a3 k hk]
  by_cases e : y = x
  ·by_cases m : y ∈ o
   ·rw [if_pos m, if_pos e, cl_cl, if_pos (List.mem_cons.2 (.inl e))]
   ·rw [if_neg m, if_pos e, if_pos (List.mem_cons.2 (.inl e))]
  ·by_cases m : y ∈ o
   ·rw [if_pos m, if_neg e, if_pos (List.mem_cons_of_mem _ m)]
   ·rw [if_neg m, if_neg e, if_neg (fun k => (List.mem_cons.1 k).elim e m)]
theorem cAB_good {j r : Nat} {ks : Array Value} {A : SV → SMem → Prop} {QA : Array Value → Array Value → Nat → Array Value → Prop} {QB : Int → Array Value → Array Value → Nat → Array Value → Prop} {fs : List SFr} {m : SMem} (hA : ∀ us zz n cs, QA us zz n cs → Good Tryd.prog A 0 (cA_F (j + 1) ts h u0 us zz n cs) (cA_M (j + 1) ts h u0 us zz n cs)) (hB : ∀ i us zz n cs, QB i us zz n cs → Good Tryd.prog A 0 (cB_F j ts h u0 r ks i us zz n cs) (cB_M j ts h u0 r ks i us zz n cs)) (hb : cAB j ts h u0 r ks QA QB fs m) : Good Tryd.prog A 0 fs m := by
 unfold cAB at hb
 split at hb
 ·exact cA_good hA hb
 ·exact cB_good hB hb
theorem cB_S {j r : Nat} {ks : Array Value} {i : Int} {us zz : Array Value} {n : Nat} {cs o : Array Value} {e : Int} {QA : Array Value → Array Value → Nat → Array Value → Prop} {QB : Int → Array Value → Array Value → Nat → Array Value → Prop} (hr : r ≤ 1000) (hn : n ≤ 1000)
  (h1 : 0 ≤ i ∧ i < (r : Int)) (h2 : IsInt .u32 ks i.toNat) (h4 : n ≤ cs.size) (hB : 1 ≤ i → QB (i - 1) us zz (n + 1) (cs.extract 0 n ++ #[.int .u32 (intAt ks i.toNat)])) (hA : ¬ 1 ≤ i → QA us zz (n + 1) (cs.extract 0 n ++ #[.int .u32 (intAt ks i.toNat)])) : cVB_R j ts h u0 r ks i us zz n cs o e QA QB := by
 have e := i64_sub1 (i := i) ⟨h1.1, by omega⟩
 have d2 : decide (((n + 1 : Nat) : Int) > 0) = true := decide_eq_true (by omega)
 have hl1 : ((n + 1) * 4 ≤ 140737488355328 ∧ n + 1 ≤ 140737488355328) := ⟨by omega, by omega⟩
 have t1 : TodoOk (ren 0 ([(0, 0), (1, 1), (2, 2), (3, 3), (4, 4), (5, 5), (7, 7), (8, 8), (9, 65), (10, 10), (60, 60), (61, 61), (63, 63)] ++ idZ (j + 1))) cB_d1 cB_d1 := TodoOk.rf rfl (by kernel_rfl)
 have t2 : TodoOk (ren 0 ([(0, 0), (1, 1), (2, 2), (3, 3), (4, 4), (5, 5), (7, 7), (8, 8), (9, 65), (10, 10), (60, 60), (61, 61), (63, 63)] ++ idZ (j + 1))) cA_d1 cA_d1 := TodoOk.rf rfl (by kernel_rfl)
 have t3 : TodoOk (ren 0 ([(0, 0), (1, 1), (2, 2), (3, 3), (4, 4), (5, 5), (7, 7), (8, 8), (9, 65), (10, 10)] ++ idZ (j + 1))) cA_d1 cA_d1 := TodoOk.rf rfl (by kernel_rfl)
 unfold cVB_R
 simp only [e, d2, hl1, h1, h2, h4, t1, t2, t3, EqL_self, Nat.mul_one, Nat.zero_add, true_implies, Bool.true_eq_false, false_implies, and_true, true_and, cA_d0_ok, cB_d0_ok]
 refine ⟨fun k => hB (by have := of_decide_eq_true k; omega), fun k => hA (by have := of_decide_eq_false k; omega)⟩
section
variable {O : Array Value} {X : Int}
theorem cB_ok {j : Nat} {us zz : Array Value} {st0 K : List Int} (hj : j < 32) (hK : K.length ≤ 32) (hst : st0.length ≤ 64)
  (hA : ∀ cs, Stk cs (st0 ++ K.reverse) → Good Tryd.prog (retOk 0 [] (rgS O X) e0M) 0 (cA_F (j + 1) ts h u0 us zz (st0 ++ K.reverse).length cs) (cA_M (j + 1) ts h u0 us zz (st0 ++ K.reverse).length cs)) :
  ∀ (i : Nat) (cs : Array Value), i < K.length → Stk cs (st0 ++ (K.drop (i + 1)).reverse) → Good Tryd.prog (retOk 0 [] (rgS O X) e0M) 0 (cB_F j ts h u0 K.length (u32s K) (i : Int) us zz (st0 ++ (K.drop (i + 1)).reverse).length cs) (cB_M j ts h u0 K.length (u32s K) (i : Int) us zz (st0 ++ (K.drop (i + 1)).reverse).length cs) := by
 intro i
 induction i with
 | zero =>
  intro cs hi hs
  have hpush := hs.push (x := K.getD 0 0)
  have e0 : (st0 ++ (K.drop (0 + 1)).reverse) ++ [K.getD 0 0] = st0 ++ K.reverse := by
   rw [List.append_assoc]
   congr 1
   cases K with
   | nil => exact absurd hi (by simp)
   | cons a l => simp
  rw [e0] at hpush
  have el : (st0 ++ (K.drop (0 + 1)).reverse).length + 1 = (st0 ++ K.reverse).length := by
   have := congrArg List.length e0
   simp only [List.length_append, List.length_cons, List.length_nil] at this ⊢
   omega
  have hk := u32s_at hi
  have hl : (st0 ++ (K.drop (0 + 1)).reverse).length ≤ 96 := by rw [List.length_append, List.length_reverse, List.length_drop]; omega
  refine past_vc Ecn_ok 1000 (cVB_all j (by omega) ts h u0 _ _ _ _ _ _ _ O X (fun u z n c => u = us ∧ z = zz ∧ n = (st0 ++ K.reverse).length ∧ Stk c (st0 ++ K.reverse)) (fun _ _ _ _ _ => False)) ?_ (fun _ _ h => h) (fun fs m hb => cAB_good (fun u z n c ⟨e1, e2, e3, e4⟩ => by rw [e1, e2, e3]; exact hA c e4) (fun _ _ _ _ _ h => h.elim) hb)
  refine cB_S (by omega) (by omega) ⟨by omega, by omega⟩ (isI_of hk) hs.1 (fun k => absurd k (by decide)) (fun _ => ⟨rfl, rfl, el, ?_⟩)
  rw [show (((0 : Nat) : Int)).toNat = 0 from rfl, intAt_of hk]
  exact hpush
 | succ i ih =>
  intro cs hi hs
  have hpush := hs.push (x := K.getD (i + 1) 0)
  have e0 : (st0 ++ (K.drop (i + 1 + 1)).reverse) ++ [K.getD (i + 1) 0] = st0 ++ (K.drop (i + 1)).reverse := by
   rw [List.append_assoc]
   congr 1
   rw [List.drop_eq_getElem_cons hi, List.reverse_cons, List.getD_eq_getElem?_getD, List.getElem?_eq_getElem hi]
   rfl
  rw [e0] at hpush
  have el : (st0 ++ (K.drop (i + 1 + 1)).reverse).length + 1 = (st0 ++ (K.drop (i + 1)).reverse).length := by
   have := congrArg List.length e0
   simp only [List.length_append, List.length_cons, List.length_nil] at this ⊢
   omega
  have hk := u32s_at hi
  have hl : (st0 ++ (K.drop (i + 1 + 1)).reverse).length ≤ 96 := by rw [List.length_append, List.length_reverse, List.length_drop]; omega
  refine past_vc Ecn_ok 1000 (cVB_all j (by omega) ts h u0 _ _ _ _ _ _ _ O X (fun _ _ _ _ => False) (fun i' u z n c => i' = (i : Int) ∧ u = us ∧ z = zz ∧ n = (st0 ++ (K.drop (i + 1)).reverse).length ∧ Stk c (st0 ++ (K.drop (i + 1)).reverse))) ?_ (fun _ _ h => h) (fun fs m hb => cAB_good (fun _ _ _ _ h => h.elim) (fun i' u z n c ⟨e0, e1, e2, e3, e4⟩ => by rw [e0, e1, e2, e3]; exact ih c (by omega) e4) hb)
  refine cB_S (by omega) (by omega) ⟨by omega, by omega⟩ (by rw [Int.toNat_natCast]; exact isI_of hk) hs.1 (fun _ => ⟨by omega, rfl, rfl, el, ?_⟩) (fun k => absurd (show (1 : Int) ≤ ((i + 1 : Nat) : Int) by omega) k)
  rw [Int.toNat_natCast, intAt_of hk]
  exact hpush
end
theorem cA_S {j r : Nat} {ks us zz : Array Value} {n' : Nat} {cs o : Array Value} {x e : Int} {QA : Array Value → Array Value → Nat → Array Value → Prop} {QB : Int → Array Value → Array Value → Nat → Array Value → Prop} (hb : TbOk u0) (hf : FIn ts) (hh : inH h) (hus : TbOk us) (hgx : gdF us x = true) (hz : zz.size = 448) (hx : cs[n']? = some (.int .u32 x)) (hxi : inH x) (hn : n' ≤ 1000)
  (h0 : kdF u0 x = [] → (n' ≠ 0 → QA (emT us ts h x) zz n' cs) ∧ (n' = 0 → o = emT us ts h x ∧ e = 0))
  (h1 : kdF u0 x ≠ [] → QB (((kdF u0 x).length - 1 : Nat) : Int) (emT us ts h x) zz n' cs ∧ r = (kdF u0 x).length ∧ ks = u32s (kdF u0 x)) : cVA_R j ts h u0 r ks us zz (n' + 1) cs o e QA QB := by
 have e : ari .sub .i64 (((n' + 1 : Nat) : Int)) 1 = (n' : Int) := by rw [i64_sub1 ⟨by omega, by omega⟩]; omega
 have g1 : IsInt .u32 cs n' := isI_of hx
 have g2 : intAt cs n' = x := intAt_of hx
 have hxi' : 0 ≤ x ∧ x < 4294967296 := hxi
 have hh' : 0 ≤ h ∧ h < 4294967296 := hh
 have hs := hb.sz
 have hs2 := hus.sz
 have hs3 := (em_f (ts := ts) (h := h) hus hgx).1.sz
 have y0 : 0 ≤ (n' : Int) := by omega
 have y1 : (n' : Int) < ((n' + 1 : Nat) : Int) := by omega
 have y2 : n' ≤ n' + 1 := by omega
 have hkl := kd_len u0 x
 have t1 : ∀ k, TodoOk (ren 0 ([(0, 0), (1, 1), (2, 2), (3, 3), (4, 4), (5, 5), (7, 7), (8, 8), (9, 9), (10, 10)] ++ (20 + j, k) :: idZ j)) cA_d1 cA_d1 := fun k => TodoOk.rf rfl (by kernel_rfl)
 have t2 : ∀ k, TodoOk (ren 0 ([(0, 0), (1, 1), (2, 2), (3, 3), (4, 4), (5, 5), (7, 7), (8, 8), (9, 9), (10, 10), (60, 60), (61, 61), (63, 63)] ++ (20 + j, k) :: idZ j)) cB_d1 cB_d1 := fun k => TodoOk.rf rfl (by kernel_rfl)
 have t3 : ∀ k, TodoOk (ren 0 ([(0, 0), (1, 1), (2, 2), (3, 3), (4, 4), (5, 5), (7, 7), (8, 8), (9, 9), (10, 10), (60, 60), (61, 61), (63, 63)] ++ (20 + j, k) :: idZ j)) cA_d1 cA_d1 := fun k => TodoOk.rf rfl (by kernel_rfl)
 unfold cVA_R
 simp only [e, Int.toNat_natCast, Nat.mul_one, Nat.zero_add, g1, g2, hxi', hh', hs, hs2, hs3, hz, hb, hf, hus, hgx, y0, y1, y2, t1, t2, t3, EqL_self, cA_d0_ok, cB_d0_ok, q6]
 constructor
 ·intro k
  obtain ⟨a, b⟩ := h0 (List.eq_nil_of_length_eq_zero (of_decide_eq_true k))
  exact ⟨fun c => a (by have := of_decide_eq_true c; omega), fun c => b (by have := of_decide_eq_false c; omega)⟩
 ·intro k
  have hne : kdF u0 x ≠ [] := fun e => of_decide_eq_false k (by rw [e]; rfl)
  have hp := List.length_pos_iff.2 hne
  obtain ⟨a, b, c⟩ := h1 hne
  have e2 : ari .sub .i64 ((kdF u0 x).length : Int) 1 = (((kdF u0 x).length - 1 : Nat) : Int) := by rw [i64_sub1 ⟨by omega, by omega⟩]; omega
  have d : decide ((((kdF u0 x).length - 1 : Nat) : Int) ≥ 0) = true := decide_eq_true (by omega)
  simp only [e2, d, true_implies, Bool.true_eq_false, false_implies, and_true]
  exact ⟨a, b, c⟩
theorem cA_ok (hf0 : FIn u0) (hf : FIn ts) (hhi : inH h) {c : Int} (hc : c ∈ lvT u0) {zz : Array Value} (hz : zz.size = 448) : ∀ (rem : Nat) (o st : List Int) (cs : Array Value), (UNL u0 c).length - o.length < rem → st ≠ [] → Stk cs st → (∀ y ∈ st, y ∈ lvT u0) → (∀ y ∈ o, y ∈ lvT u0) → o ++ st.reverse.flatMap (UNL u0) = UNL u0 c → Good Tryd.prog (retOk 0 [] (rgS (cuN ts h u0 (UNL u0 c)) 0) e0M) 0 (cA_F o.length ts h u0 (cuN ts h u0 o) zz st.length cs) (cA_M o.length ts h u0 (cuN ts h u0 o) zz st.length cs) := by
 have hU : (UNL u0 c).length ≤ 32 := un_32 hf0 hc
 have hb := hf0.ok
 intro rem
 induction rem with
 | zero => intro o st cs hr; omega
 | succ rem ih =>
  intro o st cs hr hne hs hsub hext hsum
  obtain ⟨st0, x, rfl⟩ := last_split hne
  have hx : x ∈ lvT u0 := hsub x (by simp)
  obtain ⟨hs0, hx0⟩ := hs.pop
  have hsum2 : (o ++ [x]) ++ ((kidsL (lvT u0) (upF u0) x).flatMap (UNL u0) ++ st0.reverse.flatMap (UNL u0)) = UNL u0 c := by
   rw [← hsum, List.reverse_append, List.reverse_cons, List.reverse_nil, List.nil_append, List.cons_append, List.nil_append, List.flatMap_cons, unl_cons hf0 hx]
   simp only [List.append_assoc, List.cons_append, List.nil_append]
  have ho : o.length < (UNL u0 c).length := by
   have := congrArg List.length hsum2
   simp only [List.length_append, List.length_cons, List.length_nil] at this
   omega
  have hxU : x ∈ UNL u0 c := by rw [← hsum2]; simp
  have hel : (st0 ++ [x]).length = st0.length + 1 := by rw [List.length_append]; rfl
  have hst0 : st0.length ≤ 64 := by
   have h1 := flat_len (f := UNL u0) (l := st0.reverse) fun y hy => by
    rw [unl_cons hf0 (hsub y (List.mem_append_left _ (List.mem_reverse.1 hy)))]
    exact Nat.le_add_left 1 _
   rw [List.length_reverse] at h1
   have h2 := congrArg List.length hsum2
   simp only [List.length_append, List.length_cons, List.length_nil] at h2
   omega
  have kd := kdF_eq hf0 hx
  have hkl := kd_len u0 x
  rw [hel]
  have eo : (o ++ [x]).length = o.length + 1 := by rw [List.length_append]; rfl
  have ho32 : o.length < 32 := by omega
  have hgo : ∀ y ∈ o, gdF u0 y = true := fun y hy => (lv_mem hb).1 (hext y hy)
  have hgx0 := (lv_mem hb).1 hx
  obtain ⟨cu1, cu2, _⟩ := cu_f (ts := ts) (h := h) o hb hgo
  have hgx : gdF (cuN ts h u0 o) x = true := by rw [gd_bk cu2]; exact hgx0
  have e1x := (cuN_one (ts := ts) (h := h) u0 o x).symm
  have hext2 : ∀ y ∈ o ++ [x], y ∈ lvT u0 := fun y hy => (List.mem_append.1 hy).elim (hext y) fun k => by rw [List.mem_singleton.1 k]; exact hx
  refine past_vc Ecn_ok 1000 (cVA_all o.length (by omega) ts h u0 (kdF u0 x).length (u32s (kdF u0 x)) _ _ _ _ (cuN ts h u0 (UNL u0 c)) 0
   (fun u z n c' => (u = cuN ts h u0 (o ++ [x]) ∧ z = zz) ∧ n = st0.length ∧ c' = cs ∧ st0 ≠ [] ∧ kdF u0 x = [])
   (fun i u z n c' => i = (((kdF u0 x).length - 1 : Nat) : Int) ∧ (u = cuN ts h u0 (o ++ [x]) ∧ z = zz) ∧ n = st0.length ∧ c' = cs ∧ kdF u0 x ≠ [])) ?_ (fun _ _ h => h)
   (fun fs m hg => cAB_good (fun u z n c' ⟨⟨e1, e2⟩, e3, e4, e5, e6⟩ => ?_) (fun i u z n c' ⟨e0, ⟨e1, e2⟩, e3, e4, e5⟩ => ?_) hg)
  ·refine cA_S hb hf hhi cu1 hgx hz hx0 (lv_in hb (.inr hx)) (by omega) (fun k => ⟨fun k2 => ⟨⟨e1x, rfl⟩, rfl, rfl, fun e => k2 (by rw [e]; rfl), k⟩, fun k2 => ?_⟩) (fun k => ⟨⟨rfl, ⟨e1x, rfl⟩, rfl, rfl, k⟩, rfl, rfl⟩)
   have e0 : st0 = [] := List.eq_nil_of_length_eq_zero k2
   rw [kd] at k
   rw [k, e0] at hsum2
   have e3 : UNL u0 c = o ++ [x] := by
    rw [← hsum2]
    simp
   rw [e3]
   exact ⟨e1x.symm, rfl⟩
  ·rw [e1, e2, e3, e4, ← eo]
   rw [kd] at e6
   rw [e6] at hsum2
   refine ih (o ++ [x]) st0 cs (by rw [eo]; omega) e5 hs0 (fun y hy => hsub y (List.mem_append_left _ hy)) hext2 ?_
   simpa using hsum2
  ·rw [e0, e1, e2, e3, e4]
   have hp := List.length_pos_iff.2 e5
   have hdrop : (kdF u0 x).drop ((kdF u0 x).length - 1 + 1) = [] := List.drop_eq_nil_of_le (by omega)
   have := cB_ok (ts := ts) (h := h) (u0 := u0) (O := (cuN ts h u0 (UNL u0 c))) (X := 0) (j := o.length) (us := cuN ts h u0 (o ++ [x])) (zz := zz) (st0 := st0) (K := kdF u0 x) (by omega) hkl hst0 (fun c' hc' => ?_) ((kdF u0 x).length - 1) cs (by omega) (by rw [hdrop]; simpa using hs0)
   ·rw [hdrop] at this
    simpa using this
   ·rw [← eo]
    have hsub2 : ∀ y ∈ st0 ++ (kdF u0 x).reverse, y ∈ lvT u0 := fun y hy => by
     rcases List.mem_append.1 hy with k | k
     ·exact hsub y (List.mem_append_left _ k)
     ·rw [kd] at k
      exact (kids_memL.1 (List.mem_reverse.1 k)).1
    refine ih (o ++ [x]) (st0 ++ (kdF u0 x).reverse) c' (by rw [eo]; omega) (fun e => e5 (by simpa using (List.append_eq_nil_iff.1 e).2)) hc' hsub2 hext2 ?_
    ·rw [List.reverse_append, List.reverse_reverse, List.flatMap_append, kd]
     exact hsum2
end
theorem Eg0_ok : EnvOk Eg0 := EnvOk.with E0_ok _ _ conT4_ok
theorem Egn_ok : EnvOk Egn := EnvOk.with E0_ok _ _ conT4_ok
variable {ts : Array Value} {h up : Int}
theorem dep_13 (hf : FIn ts) (x : Int) : depF ts x ≤ 13 := by
 unfold depF
 ·rename_i k; exact (dep_le hf.fo ((lv_mem hf.ok).2 k)).2
 ·exact Nat.zero_le _
theorem gAB_good {j r : Nat} {ks : Array Value} {A : SV → SMem → Prop} {QA : Array Value → Nat → Array Value → Prop} {QB : Int → Array Value → Nat → Array Value → Prop} {fs : List SFr} {m : SMem} (hA : ∀ zz n cs, QA zz n cs → Good Tryd.prog A 0 (gA_F (j + 1) ts h up zz n cs) (gA_M (j + 1) ts h up zz n cs)) (hB : ∀ i zz n cs, QB i zz n cs → Good Tryd.prog A 0 (gB_F j ts h up r ks i zz n cs) (gB_M j ts h up r ks i zz n cs)) (hb : gAB j ts h up r ks QA QB fs m) : Good Tryd.prog A 0 fs m := by
 unfold gAB at hb
 ·exact gA_good hA hb
 ·exact gB_good hB hb
theorem gB_S {j r : Nat} {ks : Array Value} {i : Int} {zz : Array Value} {n : Nat} {cs o : Array Value} {e : Int} {QA : Array Value → Nat → Array Value → Prop} {QB : Int → Array Value → Nat → Array Value → Prop} (hr : r ≤ 1000) (hn : n ≤ 1000)
  (h1 : 0 ≤ i ∧ i < (r : Int)) (h2 : IsInt .u32 ks i.toNat) (h4 : n ≤ cs.size) (hB : 1 ≤ i → QB (i - 1) zz (n + 1) (cs.extract 0 n ++ #[.int .u32 (intAt ks i.toNat)])) (hA : ¬ 1 ≤ i → QA zz (n + 1) (cs.extract 0 n ++ #[.int .u32 (intAt ks i.toNat)])) : gVB_R j ts h up r ks i zz n cs o e QA QB := by
 have t1 : TodoOk (ren 0 ([(0, 0), (1, 1), (2, 2), (3, 3), (4, 4), (6, 6), (7, 7), (8, 65), (9, 9), (60, 60), (61, 61), (63, 63)] ++ idZ (j + 1))) gB_d1 gB_d1 := TodoOk.rf rfl (by kernel_rfl)
 have t2 : TodoOk (ren 0 ([(0, 0), (1, 1), (2, 2), (3, 3), (4, 4), (6, 6), (7, 7), (8, 65), (9, 9), (60, 60), (61, 61), (63, 63)] ++ idZ (j + 1))) gA_d1 gA_d1 := TodoOk.rf rfl (by kernel_rfl)
 have t3 : TodoOk (ren 0 ([(0, 0), (1, 1), (2, 2), (3, 3), (4, 4), (6, 6), (7, 7), (8, 65), (9, 9)] ++ idZ (j + 1))) gA_d1 gA_d1 := TodoOk.rf rfl (by kernel_rfl)
 unfold gVB_R
 simp only [e, d2, hl1, h1, h2, h4, t1, t2, t3, EqL_self, Nat.mul_one, Nat.zero_add, true_implies, Bool.true_eq_false, false_implies, and_true, true_and, gA_d0_ok, gB_d0_ok]
theorem gB_ok {j : Nat} {zz : Array Value} {st0 K : List Int} (hj : j < 32) (hK : K.length ≤ 32) (hst : st0.length ≤ 64)
  (hA : ∀ cs, Stk cs (st0 ++ K.reverse) → Good Tryd.prog (retOk 0 [] (rgS O X) e0M) 0 (gA_F (j + 1) ts h up zz (st0 ++ K.reverse).length cs) (gA_M (j + 1) ts h up zz (st0 ++ K.reverse).length cs)) :
  ∀ (i : Nat) (cs : Array Value), i < K.length → Stk cs (st0 ++ (K.drop (i + 1)).reverse) → Good Tryd.prog (retOk 0 [] (rgS O X) e0M) 0 (gB_F j ts h up K.length (u32s K) (i : Int) zz (st0 ++ (K.drop (i + 1)).reverse).length cs) (gB_M j ts h up K.length (u32s K) (i : Int) zz (st0 ++ (K.drop (i + 1)).reverse).length cs) := by
  refine past_vc Egn_ok 1000 (gVB_all j (by omega) ts h up _ _ _ _ _ _ O X (fun z n c => z = zz ∧ n = (st0 ++ K.reverse).length ∧ Stk c (st0 ++ K.reverse)) (fun _ _ _ _ => False)) ?_ (fun _ _ h => h) (fun fs m hb => gAB_good (fun z n c ⟨e2, e3, e4⟩ => by rw [e2, e3]; exact hA c e4) (fun _ _ _ _ h => h.elim) hb)
  refine gB_S (by omega) (by omega) ⟨by omega, by omega⟩ (isI_of hk) hs.1 (fun k => absurd k (by decide)) (fun _ => ⟨rfl, el, ?_⟩)
  refine past_vc Egn_ok 1000 (gVB_all j (by omega) ts h up _ _ _ _ _ _ O X (fun _ _ _ => False) (fun i' z n c => i' = (i : Int) ∧ z = zz ∧ n = (st0 ++ (K.drop (i + 1)).reverse).length ∧ Stk c (st0 ++ (K.drop (i + 1)).reverse))) ?_ (fun _ _ h => h) (fun fs m hb => gAB_good (fun _ _ _ h => h.elim) (fun i' z n c ⟨e0, e2, e3, e4⟩ => by rw [e0, e2, e3]; exact ih c (by omega) e4) hb)
  refine gB_S (by omega) (by omega) ⟨by omega, by omega⟩ (by rw [Int.toNat_natCast]; exact isI_of hk) hs.1 (fun _ => ⟨by omega, rfl, el, ?_⟩) (fun k => absurd (show (1 : Int) ≤ ((i + 1 : Nat) : Int) by omega) k)
theorem gA_S {j r : Nat} {ks zz : Array Value} {n' : Nat} {cs o : Array Value} {x e : Int} {QA : Array Value → Nat → Array Value → Prop} {QB : Int → Array Value → Nat → Array Value → Prop} (hf : FIn ts) (hh : inH h) (hu : inH up) (hz : zz.size = 448) (hsr : (raT ts h up).size = 448) (hx : cs[n']? = some (.int .u32 x)) (hxi : inH x) (hn : n' ≤ 1000) (hd6 : depF ts x ≤ 13 ∧ depF ts up ≤ 13) (hbad : ¬ depF ts x + depF ts up ≤ 6 → o = ts ∧ e = 8)
  (h0 : depF ts x + depF ts up ≤ 6 → kdF ts x = [] → (n' ≠ 0 → QA zz n' cs) ∧ (n' = 0 → o = raT ts h up ∧ e = raE ts h up))
  (h1 : depF ts x + depF ts up ≤ 6 → kdF ts x ≠ [] → QB (((kdF ts x).length - 1 : Nat) : Int) zz n' cs ∧ r = (kdF ts x).length ∧ ks = u32s (kdF ts x)) : gVA_R j ts h up r ks zz (n' + 1) cs o e QA QB := by
 have hb := hf.ok
 have hu' : 0 ≤ up ∧ up < 4294967296 := hu
 have ed : ari .add .i64 ((depF ts x : Nat) : Int) ((depF ts up : Nat) : Int) = ((depF ts x + depF ts up : Nat) : Int) := by rw [ari_add, i64_in' (by omega) (by omega)]; omega
 have hkl := kd_len ts x
 have t1 : ∀ k, TodoOk (ren 0 ([(0, 0), (1, 1), (2, 2), (3, 3), (4, 4), (6, 6), (7, 7), (8, 8), (9, 9)] ++ (20 + j, k) :: idZ j)) gA_d1 gA_d1 := fun k => TodoOk.rf rfl (by kernel_rfl)
 have t2 : ∀ k, TodoOk (ren 0 ([(0, 0), (1, 1), (2, 2), (3, 3), (4, 4), (6, 6), (7, 7), (8, 8), (9, 9), (60, 60), (61, 61), (63, 63)] ++ (20 + j, k) :: idZ j)) gB_d1 gB_d1 := fun k => TodoOk.rf rfl (by kernel_rfl)
 have t3 : ∀ k, TodoOk (ren 0 ([(0, 0), (1, 1), (2, 2), (3, 3), (4, 4), (6, 6), (7, 7), (8, 8), (9, 9), (60, 60), (61, 61), (63, 63)] ++ (20 + j, k) :: idZ j)) gA_d1 gA_d1 := fun k => TodoOk.rf rfl (by kernel_rfl)
 unfold gVA_R
 by_cases hle : depF ts x + depF ts up ≤ 6
 rotate_left
 ·obtain ⟨b1, b2⟩ := hbad hle
  have dd : decide (((depF ts x + depF ts up : Nat) : Int) > 6) = true := decide_eq_true (by omega)
  simp only [e, dd, b1, b2, Int.toNat_natCast, Nat.mul_one, Nat.zero_add, g1, g2, hxi', hh', hu', hs, hz, hsr, hb, hf, ed, y0, y1, y2, true_implies, Bool.true_eq_false, false_implies, and_true, true_and]
 have dd : decide (((depF ts x + depF ts up : Nat) : Int) > 6) = false := decide_eq_false (by omega)
 have h0 := h0 hle
 have h1 := h1 hle
 simp only [e, dd, Int.toNat_natCast, Nat.mul_one, Nat.zero_add, g1, g2, hxi', hh', hu', hs, hz, hsr, hb, hf, ed, y0, y1, y2, t1, t2, t3, EqL_self, gA_d0_ok, gB_d0_ok, q6]
  have hne : kdF ts x ≠ [] := fun e => of_decide_eq_false k (by rw [e]; rfl)
  have e2 : ari .sub .i64 ((kdF ts x).length : Int) 1 = (((kdF ts x).length - 1 : Nat) : Int) := by rw [i64_sub1 ⟨by omega, by omega⟩]; omega
  have d : decide ((((kdF ts x).length - 1 : Nat) : Int) ≥ 0) = true := decide_eq_true (by omega)
theorem gA_ok (hf : FIn ts) (hhi : inH h) (hu : inH up) (hsr : (raT ts h up).size = 448) {c : Int} (hc : c ∈ lvT ts) {zz : Array Value} (hz : zz.size = 448) {O : Array Value} {X : Int} (hgood : (∀ y ∈ UNL ts c, depF ts y + depF ts up ≤ 6) → O = raT ts h up ∧ X = raE ts h up) (hbad : ∀ y ∈ UNL ts c, ¬ depF ts y + depF ts up ≤ 6 → O = ts ∧ X = 8) : ∀ (rem : Nat) (o st : List Int) (cs : Array Value), (UNL ts c).length - o.length < rem → st ≠ [] → Stk cs st → (∀ y ∈ st, y ∈ lvT ts) → (∀ y ∈ o, depF ts y + depF ts up ≤ 6) → o ++ st.reverse.flatMap (UNL ts) = UNL ts c → Good Tryd.prog (retOk 0 [] (rgS O X) e0M) 0 (gA_F o.length ts h up zz st.length cs) (gA_M o.length ts h up zz st.length cs) := by
 have hU : (UNL ts c).length ≤ 32 := un_32 hf hc
 have hb := hf.ok
  have hx : x ∈ lvT ts := hsub x (by simp)
  have hsum2 : (o ++ [x]) ++ ((kidsL (lvT ts) (upF ts) x).flatMap (UNL ts) ++ st0.reverse.flatMap (UNL ts)) = UNL ts c := by
   rw [← hsum, List.reverse_append, List.reverse_cons, List.reverse_nil, List.nil_append, List.cons_append, List.nil_append, List.flatMap_cons, unl_cons hf hx]
  have ho : o.length < (UNL ts c).length := by
  have hxU : x ∈ UNL ts c := by rw [← hsum2]; simp
   have h1 := flat_len (f := UNL ts) (l := st0.reverse) fun y hy => by
    rw [unl_cons hf (hsub y (List.mem_append_left _ (List.mem_reverse.1 hy)))]
  have kd := kdF_eq hf hx
  have hkl := kd_len ts x
  have hd13 : depF ts x ≤ 13 ∧ depF ts up ≤ 13 := ⟨dep_13 hf x, dep_13 hf up⟩
  refine past_vc Egn_ok 1000 (gVA_all o.length (by omega) ts h up (kdF ts x).length (u32s (kdF ts x)) _ _ _ O X
   (fun z n c' => (z = zz) ∧ n = st0.length ∧ c' = cs ∧ st0 ≠ [] ∧ kdF ts x = [] ∧ depF ts x + depF ts up ≤ 6)
   (fun i z n c' => i = (((kdF ts x).length - 1 : Nat) : Int) ∧ (z = zz) ∧ n = st0.length ∧ c' = cs ∧ kdF ts x ≠ [] ∧ depF ts x + depF ts up ≤ 6)) ?_ (fun _ _ h => h)
   (fun fs m hg => gAB_good (fun z n c' ⟨e2, e3, e4, e5, e6, e7⟩ => ?_) (fun i z n c' ⟨e0, e2, e3, e4, e5, e7⟩ => ?_) hg)
  ·refine gA_S hf hhi hu hz hsr hx0 (lv_in hb (.inr hx)) (by omega) hd13 (fun k => hbad x hxU k) (fun k6 k => ⟨fun k2 => ⟨rfl, rfl, rfl, fun e => k2 (by rw [e]; rfl), k, k6⟩, fun k2 => ?_⟩) (fun k6 k => ⟨⟨rfl, rfl, rfl, rfl, k, k6⟩, rfl, rfl⟩)
   have e3 : UNL ts c = o ++ [x] := by
   refine hgood fun y hy => ?_
   rw [e3] at hy
   exact (List.mem_append.1 hy).elim (hext y) fun k => by rw [List.mem_singleton.1 k]; exact k6
  ·rw [e2, e3, e4, ← eo]
   have hext2 : ∀ y ∈ o ++ [x], depF ts y + depF ts up ≤ 6 := fun y hy => (List.mem_append.1 hy).elim (hext y) fun k => by rw [List.mem_singleton.1 k]; exact e7
  ·rw [e0, e2, e3, e4]
   have hext2 : ∀ y ∈ o ++ [x], depF ts y + depF ts up ≤ 6 := fun y hy => (List.mem_append.1 hy).elim (hext y) fun k => by rw [List.mem_singleton.1 k]; exact e7
   have hdrop : (kdF ts x).drop ((kdF ts x).length - 1 + 1) = [] := List.drop_eq_nil_of_le (by omega)
   have := gB_ok (ts := ts) (h := h) (up := up) (O := O) (X := X) (j := o.length) (zz := zz) (st0 := st0) (K := kdF ts x) (by omega) hkl hst0 (fun c' hc' => ?_) ((kdF ts x).length - 1) cs (by omega) (by rw [hdrop]; simpa using hs0)
    have hsub2 : ∀ y ∈ st0 ++ (kdF ts x).reverse, y ∈ lvT ts := fun y hy => by
    refine ih (o ++ [x]) (st0 ++ (kdF ts x).reverse) c' (by rw [eo]; omega) (fun e => e5 (by simpa using (List.append_eq_nil_iff.1 e).2)) hc' hsub2 hext2 ?_
theorem cI_ok (hf0 : FIn u0) (hf : FIn ts) (hh : h ∈ lvT u0) (hne : kdF u0 h ≠ []) : Good Tryd.prog (retOk 0 [] (rgS (cuN ts h u0 (UNL u0 h)) 0) e0M) 0 (cI_F ts h u0 (kdF u0 h).length (u32s (kdF u0 h)) (((kdF u0 h).length - 1 : Nat) : Int) (cuN ts h u0 [h]) zT) (cI_M ts h u0 (kdF u0 h).length (u32s (kdF u0 h)) (((kdF u0 h).length - 1 : Nat) : Int) (cuN ts h u0 [h]) zT) := by
  have hkl := kd_len u0 h
  have kd := kdF_eq hf0 hh
  have hsum : [h] ++ (([] : List Int) ++ (kdF u0 h).reverse).reverse.flatMap (UNL u0) = UNL u0 h := by
    rw [List.nil_append, List.reverse_reverse, kd, unl_cons hf0 hh]
    rfl
  have hA : ∀ cs, Stk cs (([] : List Int) ++ (kdF u0 h).reverse) → Good Tryd.prog (retOk 0 [] (rgS (cuN ts h u0 (UNL u0 h)) 0) e0M) 0 (cA_F (0 + 1) ts h u0 (cuN ts h u0 [h]) zT (([] : List Int) ++ (kdF u0 h).reverse).length cs) (cA_M (0 + 1) ts h u0 (cuN ts h u0 [h]) zT (([] : List Int) ++ (kdF u0 h).reverse).length cs) := fun cs hc =>
    cA_ok hf0 hf (lv_in hf0.ok (.inr hh)) hh zT_sz _ [h] _ cs (Nat.lt_succ_self _) (fun e => hne (by simpa using e)) hc (fun y hy => by
      rw [List.nil_append] at hy
      have hy := List.mem_reverse.1 hy
      rw [kd] at hy
      exact (kids_memL.1 hy).1) (fun y hy => by rw [List.mem_singleton.1 hy]; exact hh) hsum
  have hi : (kdF u0 h).length - 1 < (kdF u0 h).length := by omega
  have hstk : Stk #[Value.int .u32 ((kdF u0 h).getD ((kdF u0 h).length - 1) 0)] [(kdF u0 h).getD ((kdF u0 h).length - 1) 0] := ⟨Nat.le_refl _, fun i hi => by
    obtain rfl : i = 0 := by simpa using hi
    rfl⟩
  have hlast : (kdF u0 h).drop ((kdF u0 h).length - 1) = [(kdF u0 h).getD ((kdF u0 h).length - 1) 0] := by
    rw [List.drop_eq_getElem_cons hi, List.drop_eq_nil_of_le (by omega), List.getD_eq_getElem?_getD, List.getElem?_eq_getElem hi]
    rfl
  refine past_vc Ecn_ok 1000 (cVI ts h u0 _ _ _ (cuN ts h u0 [h]) zT (cuN ts h u0 (UNL u0 h)) 0
    (fun u z n c => (u = cuN ts h u0 [h] ∧ z = zT) ∧ n = 1 ∧ (kdF u0 h).length = 1 ∧ c = #[Value.int .u32 ((kdF u0 h).getD ((kdF u0 h).length - 1) 0)])
    (fun i u z n c => i = (((kdF u0 h).length - 2 : Nat) : Int) ∧ (u = cuN ts h u0 [h] ∧ z = zT) ∧ n = 1 ∧ 2 ≤ (kdF u0 h).length ∧ c = #[Value.int .u32 ((kdF u0 h).getD ((kdF u0 h).length - 1) 0)])) ?_ (fun _ _ h => h)
    (fun fs m hg => cAB_good (fun u z n c ⟨⟨e1, e2⟩, e3, e4, e5⟩ => ?_) (fun i u z n c ⟨e0, ⟨e1, e2⟩, e3, e4, e5⟩ => ?_) hg)
  · have e : ari .sub .i64 (((kdF u0 h).length - 1 : Nat) : Int) 1 = (((kdF u0 h).length - 1 : Nat) : Int) - 1 := i64_sub1 ⟨by omega, by omega⟩
    have g1 : IsInt .u32 (u32s (kdF u0 h)) ((kdF u0 h).length - 1) := isI_of hk
    have g2 : intAt (u32s (kdF u0 h)) ((kdF u0 h).length - 1) = (kdF u0 h).getD ((kdF u0 h).length - 1) 0 := intAt_of hk
    have y0 : 0 ≤ (((kdF u0 h).length - 1 : Nat) : Int) := by omega
    have y1 : (((kdF u0 h).length - 1 : Nat) : Int) < ((kdF u0 h).length : Int) := by omega
    have t1 : TodoOk (ren 0 [(0, 0), (1, 1), (2, 2), (3, 3), (4, 4), (5, 5), (7, 7), (8, 8), (9, 16), (10, 10), (60, 11), (61, 12), (63, 14), (20, 13)]) cB_d1 cI_d1 := TodoOk.rf2 rfl (by kernel_rfl)
    have t2 : TodoOk (ren 0 [(0, 0), (1, 1), (2, 2), (3, 3), (4, 4), (5, 5), (7, 7), (8, 8), (9, 16), (10, 10), (60, 11), (61, 12), (63, 14), (20, 13)]) cA_d1 cA_d1 := TodoOk.rf rfl (by kernel_rfl)
    have t3 : TodoOk (ren 0 [(0, 0), (1, 1), (2, 2), (3, 3), (4, 4), (5, 5), (7, 7), (8, 8), (9, 16), (10, 10), (20, 13)]) cA_d1 cA_d1 := TodoOk.rf rfl (by kernel_rfl)
    simp only [e, Int.toNat_natCast, Nat.mul_one, Nat.zero_add, g1, g2, y0, y1, t1, t2, t3, EqL_self, and_true, true_and, cA_d0_ok, cB_d0_ok]
    refine ⟨fun k => ?_, fun k => ?_⟩
    · have := of_decide_eq_true k
      exact ⟨by omega, by omega⟩
    · have := of_decide_eq_false k
      omega
  · rw [e1, e2, e3, e5]
    have hx : (kdF u0 h).reverse = [(kdF u0 h).getD ((kdF u0 h).length - 1) 0] := by
      have := hlast
      rw [e4] at this ⊢
      have hd : (kdF u0 h).drop (1 - 1) = kdF u0 h := rfl
      rw [hd] at this
      rw [this]
      rfl
    have := hA _ (by rw [List.nil_append, hx]; exact hstk)
    rw [List.nil_append, hx] at this
    exact this
  · rw [e0, e1, e2, e3, e5]
    have hd : (kdF u0 h).length - 2 + 1 = (kdF u0 h).length - 1 := by omega
    have := cB_ok (ts := ts) (h := h) (u0 := u0) (O := (cuN ts h u0 (UNL u0 h))) (X := 0) (j := 0) (us := cuN ts h u0 [h]) (zz := zT) (st0 := []) (K := kdF u0 h) (by omega) hkl (Nat.zero_le _) hA ((kdF u0 h).length - 2) #[Value.int .u32 ((kdF u0 h).getD ((kdF u0 h).length - 1) 0)] (by omega) (by rw [hd, hlast]; exact hstk)
    rw [hd, hlast] at this
    exact this
theorem zero_bad (ts : Array Value) : gdF ts 0 = false := rfl
theorem cut_in (hf : FIn ts) (hg : gdF ts h = true) : FIn (raS ts h 0) ∧ bkB (raS ts h 0) = bkB ts ∧ (∀ x ∈ lvT ts, depL (upF (raS ts h 0)) x ≤ depL (upF ts) x) ∧ (∀ x, x = 0 ∨ x ∈ lvT ts → (h ∈ chL (upF (raS ts h 0)) x ↔ h ∈ chL (upF ts) x)) ∧ (∀ x, x = 0 ∨ x ∈ lvT ts → h ∈ chL (upF ts) x → rtL (upF (raS ts h 0)) x = h) := by
  have hb := hf.ok
  obtain ⟨r1, r2, r3, r4, r5⟩ := raS_f (u := 0) hb hg ⟨by decide, by decide⟩
  have hl := (lv_mem hb).2 hg
  have h0 : upF (raS ts h 0) h = 0 := by
    unfold upF
    rw [r3, zero_bad]
  have hu : ∀ x ∈ lvT ts, x ≠ h → upF (raS ts h 0) x = upF ts x := fun x hx hne => up_bk r2 (r4 x ((lv_mem hb).1 hx) hne)
  obtain ⟨c1, c2, c3, c4⟩ := cut_ch hf.fo hl h0 hu
  exact ⟨⟨r1, by rw [lv_bk r2]; exact c1⟩, r2, c2, c3, c4⟩
def cutT (ts : Array Value) (h : Int) : Array Value := if gdF ts h = true then cuN ts h (raS ts h 0) (UNL (raS ts h 0) h) else ts
def cutE (ts : Array Value) (h : Int) : Int := if gdF ts h = true then 0 else 4
theorem fnCut : E0.fn 23 = some Tryd.f23 := by kernel_rfl
theorem bodyCut : Tryd.f23.body = some (Tryd.f23.body.getD .skip) := by kernel_rfl
theorem cut_con (h : Int) (m : SMem) : Con E0 23 [tbS ts, u32 h] m (needs [FIn ts, inH h] (.ret (rgS (cutT ts h) (cutE ts h)) m)) := by
  refine Con.pure E0_ok fnCut bodyCut (by kernel_rfl) (by kernel_rfl) fun hq => ?_
  have hf : FIn ts := hq _ (by simp)
  have hb := hf.ok
  have hh : inH h := hq _ (by simp)
  have hh' : 0 ≤ h ∧ h < 4294967296 := hh
  have hs := hb.sz
  have n00 : ¬ ((0 : Int) ≠ 0 ∧ gdF ts 0 = false) := fun k => k.1 rfl
  have y4 : (0 : Int) < 4294967296 := by decide
  have y5 : (0 : Int) ≤ 0 := by decide
  refine (Good.ret [] (run_vc Ec0_ok 1000 (cV0 ts h (raS ts h 0) (kdF (raS ts h 0) h).length (u32s (kdF (raS ts h 0) h)) (cutT ts h) (cutE ts h) (fun i u z => i = (((kdF (raS ts h 0) h).length - 1 : Nat) : Int) ∧ u = cuN ts h (raS ts h 0) [h] ∧ z = zT ∧ kdF (raS ts h 0) h ≠ [] ∧ gdF ts h = true)) ?_ (fun s m h => h) fun fs m hm => cI_good (fun i u z ⟨e, e1, e2, e3, hg⟩ => by
    rw [e, e1, e2]
    obtain ⟨k1, k2, _⟩ := cut_in hf hg
    have hl : h ∈ lvT (raS ts h 0) := by rw [lv_bk k2]; exact (lv_mem hb).2 hg
    have eT : cutT ts h = cuN ts h (raS ts h 0) (UNL (raS ts h 0) h) := if_pos hg
    have eE : cutE ts h = 0 := if_pos hg
    rw [eT, eE]
    exact cI_ok k1 hf hl e3) hm)).mono fun _ _ h => h.1
  cases hg : gdF ts h with
  | false =>
    have e1 : raE ts h 0 = 4 := by unfold raE; rw [if_pos (.inl hg)]
    have e2 : raT ts h 0 = ts := by unfold raT; rw [if_neg (by rw [e1]; decide)]
    have e3 : cutT ts h = ts := by unfold cutT; rw [hg]; rfl
    have e4 : cutE ts h = 4 := by unfold cutE; rw [hg]; rfl
    have d : ((4 : Int) != 0) = true := rfl
    simp only [e1, e2, e3, e4, d, hs, hf, hh', y4, y5, q6]
  | true =>
    have e1 : raE ts h 0 = 0 := by
      unfold raE
      rw [if_neg (by rintro (k | k); · rw [hg] at k; cases k
                     · exact n00 k), ch_zero, if_neg (by simp)]
    have e2 : raT ts h 0 = raS ts h 0 := by unfold raT; rw [if_pos e1]
    have eT : cutT ts h = cuN ts h (raS ts h 0) (UNL (raS ts h 0) h) := if_pos hg
    have eE : cutE ts h = 0 := if_pos hg
    have d : ((0 : Int) != 0) = false := rfl
    obtain ⟨k1, k2, _⟩ := cut_in hf hg
    have hgu : gdF (raS ts h 0) h = true := by rw [gd_bk k2]; exact hg
    have hgu' : goodB (bkB (raS ts h 0)) h = true := hgu
    have hl : h ∈ lvT (raS ts h 0) := (lv_mem k1.ok).2 hgu
    have hs2 := k1.ok.sz
    have hb2 := k1.ok
    have hbk : BkOk (bkB (raS ts h 0)) := hb2.bk
    have h64 : (64 : Nat) ≤ 448 := by decide
    have hs3 := (em_f (ts := ts) (h := h) hb2 hgu).1.sz
    have eo : emT (raS ts h 0) ts h h = cuN ts h (raS ts h 0) [h] := rfl
    have hs4 : (cuN ts h (raS ts h 0) [h]).size = 448 := hs3
    have hkl := kd_len (raS ts h 0) h
    have kd := kdF_eq k1 hl
    simp only [bk_f, e1, e2, eT, eE, eo, d, hg, hgu, hgu', hs, hs2, hs3, hs4, hb2, hbk, h64, hf, hh', y4, y5, EqL_self, Bool.not_true, q6]
    constructor
    · intro k
      have ek := List.eq_nil_of_length_eq_zero (of_decide_eq_true k)
      rw [unl_cons k1 hl, ← kd, ek]
      rfl
    · intro k
      have hne : kdF (raS ts h 0) h ≠ [] := fun e => of_decide_eq_false k (by rw [e]; rfl)
      have hp := List.length_pos_iff.2 hne
      have e5 : ari .sub .i64 ((kdF (raS ts h 0) h).length : Int) 1 = (((kdF (raS ts h 0) h).length - 1 : Nat) : Int) := by rw [i64_sub1 ⟨by omega, by omega⟩]; omega
      have d5 : decide ((((kdF (raS ts h 0) h).length - 1 : Nat) : Int) ≥ 0) = true := decide_eq_true (by omega)
      simp only [e5, d5, true_implies, Bool.true_eq_false, false_implies, and_true, true_and, cA_d1_ok0, cB_d0_ok, cI_d1_ok0]
      first | exact hne | exact ⟨hne, TodoOk.rf rfl (by kernel_rfl)⟩
end Go.Proofs.YtklhlkdpidkijaaDoor
/- Of forests: Graft: its contract. No condition. -/
namespace Go.Proofs.YtklhlkdpidkijaaDoor
set_option maxRecDepth 100000
set_option linter.unusedSimpArgs false
set_option linter.unusedVariables false
section
variable {ts : Array Value} {h up : Int}
theorem gI_ok (hf : FIn ts) (hh : h ∈ lvT ts) (hu : inH up) (hsr : (raT ts h up).size = 448) (h6 : depF ts h + depF ts up ≤ 6) {O : Array Value} {X : Int} (hgood : (∀ y ∈ UNL ts h, depF ts y + depF ts up ≤ 6) → O = raT ts h up ∧ X = raE ts h up) (hbad : ∀ y ∈ UNL ts h, ¬ depF ts y + depF ts up ≤ 6 → O = ts ∧ X = 8) (hne : kdF ts h ≠ []) : Good Tryd.prog (retOk 0 [] (rgS O X) e0M) 0 (gI_F ts h up (kdF ts h).length (u32s (kdF ts h)) (((kdF ts h).length - 1 : Nat) : Int) zT) (gI_M ts h up (kdF ts h).length (u32s (kdF ts h)) (((kdF ts h).length - 1 : Nat) : Int) zT) := by
  have hp := List.length_pos_iff.2 hne
  have hkl := kd_len ts h
  have kd := kdF_eq hf hh
  have hsum : [h] ++ (([] : List Int) ++ (kdF ts h).reverse).reverse.flatMap (UNL ts) = UNL ts h := by
    rw [List.nil_append, List.reverse_reverse, kd, unl_cons hf hh]
    rfl
  have hA : ∀ cs, Stk cs (([] : List Int) ++ (kdF ts h).reverse) → Good Tryd.prog (retOk 0 [] (rgS O X) e0M) 0 (gA_F (0 + 1) ts h up zT (([] : List Int) ++ (kdF ts h).reverse).length cs) (gA_M (0 + 1) ts h up zT (([] : List Int) ++ (kdF ts h).reverse).length cs) := fun cs hc =>
    gA_ok hf (lv_in hf.ok (.inr hh)) hu hsr hh zT_sz hgood hbad _ [h] _ cs (Nat.lt_succ_self _) (fun e => hne (by simpa using e)) hc (fun y hy => by
      rw [List.nil_append] at hy
      have hy := List.mem_reverse.1 hy
      rw [kd] at hy
      exact (kids_memL.1 hy).1) (fun y hy => by rw [List.mem_singleton.1 hy]; exact h6) hsum
  have hi : (kdF ts h).length - 1 < (kdF ts h).length := by omega
  have hk := u32s_at hi
  have hstk : Stk #[Value.int .u32 ((kdF ts h).getD ((kdF ts h).length - 1) 0)] [(kdF ts h).getD ((kdF ts h).length - 1) 0] := ⟨Nat.le_refl _, fun i hi => by
    obtain rfl : i = 0 := by simpa using hi
    rfl⟩
  have hlast : (kdF ts h).drop ((kdF ts h).length - 1) = [(kdF ts h).getD ((kdF ts h).length - 1) 0] := by
    rw [List.drop_eq_getElem_cons hi, List.drop_eq_nil_of_le (by omega), List.getD_eq_getElem?_getD, List.getElem?_eq_getElem hi]
    rfl
  refine past_vc Egn_ok 1000 (gVI ts h up _ _ _ zT O X
    (fun z n c => (z = zT) ∧ n = 1 ∧ (kdF ts h).length = 1 ∧ c = #[Value.int .u32 ((kdF ts h).getD ((kdF ts h).length - 1) 0)])
    (fun i z n c => i = (((kdF ts h).length - 2 : Nat) : Int) ∧ (z = zT) ∧ n = 1 ∧ 2 ≤ (kdF ts h).length ∧ c = #[Value.int .u32 ((kdF ts h).getD ((kdF ts h).length - 1) 0)])) ?_ (fun _ _ h => h)
    (fun fs m hg => gAB_good (fun z n c ⟨e2, e3, e4, e5⟩ => ?_) (fun i z n c ⟨e0, e2, e3, e4, e5⟩ => ?_) hg)
  · have e : ari .sub .i64 (((kdF ts h).length - 1 : Nat) : Int) 1 = (((kdF ts h).length - 1 : Nat) : Int) - 1 := i64_sub1 ⟨by omega, by omega⟩
    have g1 : IsInt .u32 (u32s (kdF ts h)) ((kdF ts h).length - 1) := isI_of hk
    have g2 : intAt (u32s (kdF ts h)) ((kdF ts h).length - 1) = (kdF ts h).getD ((kdF ts h).length - 1) 0 := intAt_of hk
    have y0 : 0 ≤ (((kdF ts h).length - 1 : Nat) : Int) := by omega
    have y1 : (((kdF ts h).length - 1 : Nat) : Int) < ((kdF ts h).length : Int) := by omega
    have t1 : TodoOk (ren 0 [(0, 0), (1, 1), (2, 2), (3, 3), (4, 4), (6, 6), (7, 7), (8, 15), (9, 9), (60, 10), (61, 11), (63, 13), (20, 12)]) gB_d1 gI_d1 := TodoOk.rf2 rfl (by kernel_rfl)
    have t2 : TodoOk (ren 0 [(0, 0), (1, 1), (2, 2), (3, 3), (4, 4), (6, 6), (7, 7), (8, 15), (9, 9), (60, 10), (61, 11), (63, 13), (20, 12)]) gA_d1 gA_d1 := TodoOk.rf rfl (by kernel_rfl)
    have t3 : TodoOk (ren 0 [(0, 0), (1, 1), (2, 2), (3, 3), (4, 4), (6, 6), (7, 7), (8, 15), (9, 9), (20, 12)]) gA_d1 gA_d1 := TodoOk.rf rfl (by kernel_rfl)
    simp only [e, Int.toNat_natCast, Nat.mul_one, Nat.zero_add, g1, g2, y0, y1, t1, t2, t3, EqL_self, and_true, true_and, gA_d0_ok, gB_d0_ok]
    refine ⟨fun k => ?_, fun k => ?_⟩
    · have := of_decide_eq_true k
      exact ⟨by omega, by omega⟩
    · have := of_decide_eq_false k
      omega
  · rw [e2, e3, e5]
    have hx : (kdF ts h).reverse = [(kdF ts h).getD ((kdF ts h).length - 1) 0] := by
      have := hlast
      rw [e4] at this ⊢
      have hd : (kdF ts h).drop (1 - 1) = kdF ts h := rfl
      rw [hd] at this
      rw [this]
      rfl
    have := hA _ (by rw [List.nil_append, hx]; exact hstk)
    rw [List.nil_append, hx] at this
    exact this
  · rw [e0, e2, e3, e5]
    have hd : (kdF ts h).length - 2 + 1 = (kdF ts h).length - 1 := by omega
    have := gB_ok (ts := ts) (h := h) (up := up) (O := O) (X := X) (j := 0) (zz := zT) (st0 := []) (K := kdF ts h) (by omega) hkl (Nat.zero_le _) hA ((kdF ts h).length - 2) #[Value.int .u32 ((kdF ts h).getD ((kdF ts h).length - 1) 0)] (by omega) (by rw [hd, hlast]; exact hstk)
    rw [hd, hlast] at this
    exact this
def gr6 (ts : Array Value) (h up : Int) : Prop := ∀ y ∈ UNL ts h, depF ts y + depF ts up ≤ 6
open Classical in
noncomputable def grE (ts : Array Value) (h up : Int) : Int := if gdF ts h = false ∨ gdF ts up = false then 4 else if rtF ts h ≠ h ∨ outF ts h up = true then 12 else if gr6 ts h up then 0 else 8
noncomputable def grT (ts : Array Value) (h up : Int) : Array Value := if grE ts h up = 0 then raS ts h up else ts
theorem fnGr : E0.fn 25 = some Tryd.f25 := by kernel_rfl
theorem bodyGr : Tryd.f25.body = some (Tryd.f25.body.getD .skip) := by kernel_rfl
theorem graft_con (h up : Int) (m : SMem) : Con E0 25 [tbS ts, u32 h, u32 up] m (needs [FIn ts, inH h, inH up] (.ret (rgS (grT ts h up) (grE ts h up)) m)) := by
  refine Con.pure E0_ok fnGr bodyGr (by kernel_rfl) (by kernel_rfl) fun hq => ?_
  have hf : FIn ts := hq _ (by simp)
  have hb := hf.ok
  have hh : inH h := hq _ (by simp)
  have hu : inH up := hq _ (by simp)
  have hh' : 0 ≤ h ∧ h < 4294967296 := hh
  have hu' : 0 ≤ up ∧ up < 4294967296 := hu
  have hs := hb.sz
  have hbk : BkOk (bkB ts) := hb.bk
  have h64 : (64 : Nat) ≤ 448 := by decide
  have hd1 := dep_13 hf h
  have hd2 := dep_13 hf up
  have ed : ari .add .i64 ((depF ts h : Nat) : Int) ((depF ts up : Nat) : Int) = ((depF ts h + depF ts up : Nat) : Int) := by rw [ari_add, i64_in' (by omega) (by omega)]; omega
  have main : gdF ts h = true → gdF ts up = true → rtF ts h = h → outF ts h up = false → raE ts h up = 0 ∧ raT ts h up = raS ts h up ∧ (raT ts h up).size = 448 := fun hg hgu hr ho => by
    have n1 : ¬ (gdF ts h = false ∨ (up ≠ 0 ∧ gdF ts up = false)) := by
      rintro (k | k)
      · rw [hg] at k; cases k
      · rw [hgu] at k; cases k.2
    have n2 : h ∉ chL (upF ts) up := fun k => by
      unfold outF at ho
      rw [hgu, decide_eq_true k] at ho
      cases ho
    have e1 : raE ts h up = 0 := by unfold raE; rw [if_neg n1, if_neg n2]
    have e2 : raT ts h up = raS ts h up := by unfold raT; rw [if_pos e1]
    exact ⟨e1, e2, by rw [e2]; exact (raS_f hb hg hu).1.sz⟩
  have good : gdF ts h = true → gdF ts up = true → rtF ts h = h → outF ts h up = false → gr6 ts h up → grT ts h up = raT ts h up ∧ grE ts h up = raE ts h up := fun hg hgu hr ho h6 => by
    obtain ⟨e1, e2, _⟩ := main hg hgu hr ho
    have e3 : grE ts h up = 0 := by
      unfold grE
      rw [if_neg (by rintro (k | k); · rw [hg] at k; cases k
                     · rw [hgu] at k; cases k), if_neg (by rintro (k | k); · exact k hr
                                                           · rw [ho] at k; cases k), if_pos h6]
    exact ⟨by unfold grT; rw [if_pos e3, e2], by rw [e3, e1]⟩
  have bad : gdF ts h = true → gdF ts up = true → rtF ts h = h → outF ts h up = false → ¬ gr6 ts h up → grT ts h up = ts ∧ grE ts h up = 8 := fun hg hgu hr ho h6 => by
    have e3 : grE ts h up = 8 := by
      unfold grE
      rw [if_neg (by rintro (k | k); · rw [hg] at k; cases k
                     · rw [hgu] at k; cases k), if_neg (by rintro (k | k); · exact k hr
                                                           · rw [ho] at k; cases k), if_neg h6]
    exact ⟨by unfold grT; rw [if_neg (by rw [e3]; decide)], e3⟩
  refine (Good.ret [] (run_vc Eg0_ok 1000 (gV0 ts h up (kdF ts h).length (u32s (kdF ts h)) (grT ts h up) (grE ts h up) (fun i z => i = (((kdF ts h).length - 1 : Nat) : Int) ∧ z = zT ∧ kdF ts h ≠ [] ∧ gdF ts h = true ∧ gdF ts up = true ∧ rtF ts h = h ∧ outF ts h up = false ∧ depF ts h + depF ts up ≤ 6)) ?_ (fun s m h => h) fun fs m hm => gI_good (fun i z ⟨e, e2, e3, hg, hgu, hr, ho, h6⟩ => by
    rw [e, e2]
    have hl : h ∈ lvT ts := (lv_mem hb).2 hg
    obtain ⟨m1, m2, m3⟩ := main hg hgu hr ho
    exact gI_ok hf hl hu m3 h6 (fun k => good hg hgu hr ho k) (fun y hy k => bad hg hgu hr ho fun g => k (g y hy)) e3) hm)).mono fun _ _ h => h.1
  have stale : (gdF ts h = false ∨ gdF ts up = false) → grT ts h up = ts ∧ grE ts h up = 4 := fun k => by
    have e3 : grE ts h up = 4 := by unfold grE; rw [if_pos k]
    exact ⟨by unfold grT; rw [if_neg (by rw [e3]; decide)], e3⟩
  have state : gdF ts h = true → gdF ts up = true → (rtF ts h ≠ h ∨ outF ts h up = true) → grT ts h up = ts ∧ grE ts h up = 12 := fun hg hgu k => by
    have e3 : grE ts h up = 12 := by
      unfold grE
      rw [if_neg (by rintro (k | k); · rw [hg] at k; cases k
                     · rw [hgu] at k; cases k), if_pos k]
    exact ⟨by unfold grT; rw [if_neg (by rw [e3]; decide)], e3⟩
  cases hg : gdF ts h with
  | false =>
    have hg' : goodB (bkB ts) h = false := hg
    obtain ⟨e3, e4⟩ := stale (.inl hg)
    simp only [bk_f, hg', e3, e4, hs, hbk, h64, hf, hh', hu', beqF, Bool.not_true, Bool.not_false, q6]
  | true =>
    have hg' : goodB (bkB ts) h = true := hg
    cases hgu : gdF ts up with
    | false =>
      have hgu' : goodB (bkB ts) up = false := hgu
      obtain ⟨e3, e4⟩ := stale (.inr hgu)
      simp only [bk_f, hg', hgu', e3, e4, hs, hbk, h64, hf, hh', hu', beqF, Bool.not_true, Bool.not_false, q6]
    | true =>
      have hgu' : goodB (bkB ts) up = true := hgu
      by_cases hr : rtF ts h = h
      rotate_left
      · have dr : (rtF ts h != h) = true := bne_iff_ne.2 hr
        obtain ⟨e3, e4⟩ := state hg hgu (.inl hr)
        simp only [bk_f, hg', hgu', dr, e3, e4, hs, hbk, h64, hf, hh', hu', beqF, Bool.not_true, Bool.not_false, q6]
      · have dr : (rtF ts h != h) = false := by rw [hr]; exact bne_self_eq_false h
        cases ho : outF ts h up with
        | true =>
          obtain ⟨e3, e4⟩ := state hg hgu (.inr ho)
          simp only [bk_f, hg', hgu', dr, ho, e3, e4, hs, hbk, h64, hf, hh', hu', beqF, Bool.not_true, Bool.not_false, q6]
        | false =>
          obtain ⟨m1, m2, m3⟩ := main hg hgu hr ho
          have hl : h ∈ lvT ts := (lv_mem hb).2 hg
          have kd := kdF_eq hf hl
          have hkl := kd_len ts h
          by_cases h6 : depF ts h + depF ts up ≤ 6
          rotate_left
          · have dd : decide (((depF ts h + depF ts up : Nat) : Int) > 6) = true := decide_eq_true (by omega)
            obtain ⟨e3, e4⟩ := bad hg hgu hr ho fun g => h6 (g h (by rw [unl_cons hf hl]; exact List.mem_cons_self ..))
            simp only [bk_f, hg', hgu', dr, ho, ed, dd, e3, e4, m3, hs, hbk, h64, hf, hb, hh', hu', beqF, Bool.not_true, Bool.not_false, q6]
          · have dd : decide (((depF ts h + depF ts up : Nat) : Int) > 6) = false := decide_eq_false (by omega)
            simp only [bk_f, hg', hgu', dr, ho, ed, dd, m3, hs, hbk, h64, hf, hb, hh', hu', EqL_self, beqF, Bool.not_true, Bool.not_false, q6]
            constructor
            · intro k
              have ek := List.eq_nil_of_length_eq_zero (of_decide_eq_true k)
              have eU : UNL ts h = [h] := by rw [unl_cons hf hl, ← kd, ek]; rfl
              exact good hg hgu hr ho fun y hy => by
                rw [eU] at hy
                rw [List.mem_singleton.1 hy]; exact h6
            · intro k
              have hne : kdF ts h ≠ [] := fun e => of_decide_eq_false k (by rw [e]; rfl)
              have hp := List.length_pos_iff.2 hne
              have e5 : ari .sub .i64 ((kdF ts h).length : Int) 1 = (((kdF ts h).length - 1 : Nat) : Int) := by rw [i64_sub1 ⟨by omega, by omega⟩]; omega
              have d5 : decide ((((kdF ts h).length - 1 : Nat) : Int) ≥ 0) = true := decide_eq_true (by omega)
              simp only [e5, d5, true_implies, Bool.true_eq_false, false_implies, and_true, true_and, gA_d1_ok0, gB_d0_ok, gI_d1_ok0]
              first | exact ⟨hne, hr, h6⟩ | exact ⟨⟨hne, hr, h6⟩, TodoOk.rf rfl (by kernel_rfl)⟩ | exact ⟨⟨hne, hg, hgu, hr, ho, h6⟩, TodoOk.rf rfl (by kernel_rfl)⟩
end
end Go.Proofs.YtklhlkdpidkijaaDoor
/- Of forests: Fell, New, All; whether a forest is whole: states. No condition. -/
namespace Go.Proofs.YtklhlkdpidkijaaDoor
set_option linter.unusedVariables false
noncomputable def conT5 (g : FuncId) (l : List SV) (m : SMem) : Option Tree := match g, l with
 | 23, [.s (.agg (.op ts)), .s (.c (.f (.int .u32 h)))] => some (.need [FIn ts, inH h.den] (.ret (rgS (cutT ts h.den) (cutE ts h.den)) m))
 | 25, [.s (.agg (.op ts)), .s (.c (.f (.int .u32 h))), .s (.c (.f (.int .u32 u)))] => some (.need [FIn ts, inH h.den, inH u.den] (.ret (rgS (grT ts h.den u.den) (grE ts h.den u.den)) m))
 | 22, [.s (.agg (.op ts))] => some (.need [TbOk ts] (rowT (lvT ts) 30 m))
 | g, l => conT4 g l m
noncomputable def E50 : Env := ⟨Tryd.prog, fnOf, conT4, haltAt [20 * 1000 + 5]⟩
noncomputable def fellS (o : Array Value) (i n : Nat) : SV := .tup [.agg (.op o), .c (.f (.slice i (.l 0) (.o n) (.full 1))), .c (.f (.int .i64 (.o 0)))]
noncomputable def fellA (o : Array Value) (n : Nat) (rs : Array Value) (s : SV) (m : SMem) : Prop := match s with | .tup [_, .c (.f (.slice i _ _ _)), _] => retOk 0 [(0, i)] (fellS o 0 n) (mkM 1 [(0, ⟨.pop rs, 30, true⟩)]) s m | _ => False
noncomputable def fellN (ts : Array Value) : SV := .tup [.agg (.op ts), .c (.f (.lit (.slice none 0 0))), .c (.f (.int .i64 (.o 4)))]
noncomputable def fL_d0 : List SIt := sekF Tryd.f20 5
noncomputable def fL_F (h : Int) (n : Nat) (rs : Array Value) (i : Int) (us : Array Value) (zz : Array Value) : List SFr := [frOf 20 Tryd.f20 [(2, ptr 0 (.l 0)), (4, ptr 1 (.l 0)), (7, slS 2 n), (19, slS 2 n), (20, i64 (.o (n : Int))), (21, i64 (.o i))] fL_d0]
noncomputable def fL_M (h : Int) (n : Nat) (rs : Array Value) (i : Int) (us : Array Value) (zz : Array Value) : SMem := mkM 3 [(0, ⟨.op us, 39, true⟩), (1, ⟨.op zz, 39, true⟩), (2, ⟨.pop rs, 30, true⟩)]
noncomputable def fL_n (h : Int) (n : Nat) (rs : Array Value) (Q : Int → Array Value → Array Value → Prop) (fs : List SFr) (m : SMem) : Prop := (match frNth fs 0 with | some f0 => (match rdI f0 21 with | some i => (match rdP f0 2 with | some p0 => (match rdP f0 4 with | some p1 => (match rdSI f0 7 with | some p2 => (match rdA m p0 with | some us => (match rdA m p1 with | some zz => Q i us zz ∧ subOk 0 [(0, p0), (1, p1), (2, p2)] (fL_F h n rs i us zz) (fL_M h n rs i us zz) fs m | none => False) | none => False) | none => False) | none => False) | none => False) | none => False) | none => False)
noncomputable def fl0_t (ts : Array Value) (h : Int) (n : Nat) (rs : Array Value) : Tree := run E50 1000 0 [callFr 20 Tryd.f20.ntmps [tbS ts, u32 h] (Tryd.f20.body.getD .skip)] e0M
noncomputable def fl0_x (ts : Array Value) (h : Int) (n : Nat) (rs : Array Value) (QfL : Int → Array Value → Array Value → Prop) (fs : List SFr) (m : SMem) : Prop := fL_n h n rs QfL fs m
noncomputable def fl1_t (h : Int) (n : Nat) (rs : Array Value) (i : Int) (us : Array Value) (zz : Array Value) : Tree := stepT E50.go (run E50 1000) 0 (fL_F h n rs i us zz) (fL_M h n rs i us zz)
noncomputable def fl1_x (h : Int) (n : Nat) (rs : Array Value) (i : Int) (us : Array Value) (zz : Array Value) (QfL : Int → Array Value → Array Value → Prop) (fs : List SFr) (m : SMem) : Prop := fL_n h n rs QfL fs m
theorem fL_d0_ok (r : Nat → Option Nat) : TodoOk r fL_d0 fL_d0 := TodoOk.it (by kernel_rfl)
theorem fL_good {A : SV → SMem → Prop} {h : Int} {n : Nat} {rs : Array Value} {Q : Int → Array Value → Array Value → Prop} {fs : List SFr} {m : SMem} (H : ∀ i us zz, Q i us zz → Good Tryd.prog A 0 (fL_F h n rs i us zz) (fL_M h n rs i us zz)) (hb : fL_n h n rs Q fs m) : Good Tryd.prog A 0 fs m := by
 unfold fL_n at hb
 split at hb
 rotate_left
 ·exact hb.elim
 split at hb
 rotate_left
 ·exact hb.elim
 split at hb
 rotate_left
 ·exact hb.elim
 split at hb
 rotate_left
 ·exact hb.elim
 split at hb
 rotate_left
 ·exact hb.elim
 split at hb
 rotate_left
 ·exact hb.elim
 split at hb
 rotate_left
 ·exact hb.elim
 exact Good.of_sub hb.2 (H _ _ _ hb.1)
theorem fl0_go {A : SV → SMem → Prop} {ts : Array Value} {h : Int} {n : Nat} {rs : Array Value} {QfL : Int → Array Value → Array Value → Prop} {fs : List SFr} {m : SMem} (hfL : ∀ i' us' zz', QfL i' us' zz' → Good Tryd.prog A 0 (fL_F h n rs i' us' zz') (fL_M h n rs i' us' zz')) (hb : fl0_x ts h n rs QfL fs m) : Good Tryd.prog A 0 fs m := by
 unfold fl0_x at hb
 exact fL_good hfL hb
theorem fl1_go {A : SV → SMem → Prop} {h : Int} {n : Nat} {rs : Array Value} {i : Int} {us : Array Value} {zz : Array Value} {QfL : Int → Array Value → Array Value → Prop} {fs : List SFr} {m : SMem} (hfL : ∀ i' us' zz', QfL i' us' zz' → Good Tryd.prog A 0 (fL_F h n rs i' us' zz') (fL_M h n rs i' us' zz')) (hb : fl1_x h n rs i us zz QfL fs m) : Good Tryd.prog A 0 fs m := by
 unfold fl1_x at hb
 exact fL_good hfL hb
set_option maxRecDepth 100000
theorem flN (ts : Array Value) (h : Int) (n : Nat) (rs : Array Value) (Q : Int → Array Value → Array Value → Prop) : (fl0_t ts h n rs).vc (retOk 0 [] (fellN ts) e0M) (fl0_x ts h n rs Q) =
  ((64 ≤ Array.size ts ∧ True) ∧ (BkOk (Array.extract ts 0 64) ∧ (0 ≤ h ∧ h < 4294967296) ∧ True) ∧ ((!goodB (Array.extract ts 0 64) h) = true → (Array.size ts = 448 ∧ True) ∧ (Array.size ts = 448 ∧ Array.size ts = 448 ∧ True) ∧ (Array.size ts = 448 ∧ True) ∧ ts = ts ∧ Value.slice none 0 0 = Value.slice none 0 0 ∧ (4 : Int) = (4 : Int) ∧ True) ∧ ((!goodB (Array.extract ts 0 64) h) = false → (Array.size ts = 448 ∧ True) ∧ (FIn ts ∧ (0 ≤ h ∧ h < 4294967296) ∧ True) ∧ (decide (List.length (unT ts h) = 0) = true → False) ∧ (decide (List.length (unT ts h) = 0) = false → Q (0 : Int) ts zT ∧ CallKind.normal = CallKind.normal ∧ TodoOk (ren 0 [(0, 0), (1, 1), (2, 2)]) fL_d0 fL_d0 ∧ n = List.length (unT ts h) ∧ n = List.length (unT ts h) ∧ (0 : Int) = (0 : Int) ∧ (↑n : Int) = (↑(List.length (unT ts h)) : Int) ∧ (39 : TypeId) = (39 : Nat) ∧ ts = ts ∧ (39 : TypeId) = (39 : Nat) ∧ zT = zT ∧ (30 : TypeId) = (30 : TypeId) ∧ rs = u32s (unT ts h) ∧ True))) := by kernel_rfl
theorem flF0 (ts : Array Value) (h : Int) (n : Nat) (rs : Array Value) (o : Array Value) (Q : Int → Array Value → Array Value → Prop) : (fl0_t ts h n rs).vc (fellA o n rs) (fl0_x ts h n rs Q) =
  ((64 ≤ Array.size ts ∧ True) ∧ (BkOk (Array.extract ts 0 64) ∧ (0 ≤ h ∧ h < 4294967296) ∧ True) ∧ ((!goodB (Array.extract ts 0 64) h) = true → (Array.size ts = 448 ∧ True) ∧ (Array.size ts = 448 ∧ Array.size ts = 448 ∧ True) ∧ (Array.size ts = 448 ∧ True) ∧ False) ∧ ((!goodB (Array.extract ts 0 64) h) = false → (Array.size ts = 448 ∧ True) ∧ (FIn ts ∧ (0 ≤ h ∧ h < 4294967296) ∧ True) ∧ (decide (List.length (unT ts h) = 0) = true → False) ∧ (decide (List.length (unT ts h) = 0) = false → Q (0 : Int) ts zT ∧ CallKind.normal = CallKind.normal ∧ TodoOk (ren 0 [(0, 0), (1, 1), (2, 2)]) fL_d0 fL_d0 ∧ n = List.length (unT ts h) ∧ n = List.length (unT ts h) ∧ (0 : Int) = (0 : Int) ∧ (↑n : Int) = (↑(List.length (unT ts h)) : Int) ∧ (39 : TypeId) = (39 : Nat) ∧ ts = ts ∧ (39 : TypeId) = (39 : Nat) ∧ zT = zT ∧ (30 : TypeId) = (30 : TypeId) ∧ rs = u32s (unT ts h) ∧ True))) := by kernel_rfl
theorem flF (h : Int) (n : Nat) (rs : Array Value) (i : Int) (us zz o : Array Value) (Q : Int → Array Value → Array Value → Prop) : (fl1_t h n rs i us zz).vc (fellA o n rs) (fl1_x h n rs i us zz Q) =
  ((decide (i < (↑n : Int)) = true → ((0 ≤ i ∧ i < (↑n : Int)) ∧ True) ∧ (IsInt .u32 rs (0 + Int.toNat i * 1) ∧ True) ∧ (Array.size us = 448 ∧ True) ∧ (TbOk us ∧ (0 ≤ intAt rs (0 + Int.toNat i * 1) ∧ intAt rs (0 + Int.toNat i * 1) < 4294967296) ∧ True) ∧ (Array.size (dropT us (intAt rs (0 + Int.toNat i * 1))) = 448 ∧ Array.size (dropT us (intAt rs (0 + Int.toNat i * 1))) = Array.size us ∧ True) ∧ Q (ari .add .i64 i 1) (dropT us (intAt rs (0 + Int.toNat i * 1))) zz ∧ CallKind.normal = CallKind.normal ∧ TodoOk (ren 0 [(0, 0), (1, 1), (2, 2)]) fL_d0 fL_d0 ∧ n = n ∧ n = n ∧ ari .add .i64 i 1 = ari .add .i64 i 1 ∧ (↑n : Int) = (↑n : Int) ∧ (39 : TypeId) = (39 : TypeId) ∧ dropT us (intAt rs (0 + Int.toNat i * 1)) = dropT us (intAt rs (0 + Int.toNat i * 1)) ∧ (39 : TypeId) = (39 : TypeId) ∧ zz = zz ∧ (30 : TypeId) = (30 : TypeId) ∧ rs = rs ∧ True) ∧ (decide (i < (↑n : Int)) = false → (Array.size us = 448 ∧ True) ∧ (Array.size us = 448 ∧ Array.size us = Array.size zz ∧ True) ∧ (Array.size us = 448 ∧ True) ∧ o = us ∧ n = n ∧ (0 : Int) = (0 : Int) ∧ (30 : TypeId) = (30 : TypeId) ∧ rs = rs ∧ True)) := by kernel_rfl
theorem fn0 (ts : Array Value) (u q : Int) (o : Array Value) (k e : Int) : (run E50 1000 0 [callFr 27 Tryd.f27.ntmps [tbS ts, u32 u, i64 (.o q)] (Tryd.f27.body.getD .skip)] e0M).vc (retOk 0 [] (.tup [.agg (.op o), .c (.f (.int .u32 (.o k))), .c (.f (.int .i64 (.o e)))]) e0M) (fun _ _ => False) =
  ((Array.size ts = 448 ∧ True) ∧ (TbOk ts ∧ (0 ≤ u ∧ u < 4294967296) ∧ True) ∧ (Array.size (newT ts u q) = 448 ∧ Array.size (newT ts u q) = 448 ∧ True) ∧ (((newE ts u q == 0) == false) = true → (((newE ts u q == 7) == true) = true → (Array.size ts = 448 ∧ True) ∧ (FIn ts ∧ (0 ≤ u ∧ u < 4294967296) ∧ True) ∧ (decide ((↑(depF ts u) : Int) ≥ 6) = true → (Array.size ts = 448 ∧ True) ∧ (Array.size ts = 448 ∧ Array.size ts = 448 ∧ True) ∧ (Array.size ts = 448 ∧ True) ∧ o = ts ∧ k = 0 ∧ e = 8 ∧ True) ∧ (decide ((↑(depF ts u) : Int) ≥ 6) = false → (Array.size (newT ts u q) = 448 ∧ True) ∧ (Array.size (newT ts u q) = 448 ∧ Array.size (newT ts u q) = 448 ∧ True) ∧ (Array.size (newT ts u q) = 448 ∧ True) ∧ o = newT ts u q ∧ k = newI ts u q ∧ e = newE ts u q ∧ True)) ∧ (((newE ts u q == 7) == true) = false → (Array.size (newT ts u q) = 448 ∧ True) ∧ (Array.size (newT ts u q) = 448 ∧ Array.size (newT ts u q) = 448 ∧ True) ∧ (Array.size (newT ts u q) = 448 ∧ True) ∧ o = newT ts u q ∧ k = newI ts u q ∧ e = newE ts u q ∧ True)) ∧ (((newE ts u q == 0) == false) = false → (Array.size ts = 448 ∧ True) ∧ (FIn ts ∧ (0 ≤ u ∧ u < 4294967296) ∧ True) ∧ (decide ((↑(depF ts u) : Int) ≥ 6) = true → (Array.size ts = 448 ∧ True) ∧ (Array.size ts = 448 ∧ Array.size ts = 448 ∧ True) ∧ (Array.size ts = 448 ∧ True) ∧ o = ts ∧ k = 0 ∧ e = 8 ∧ True) ∧ (decide ((↑(depF ts u) : Int) ≥ 6) = false → (Array.size (newT ts u q) = 448 ∧ True) ∧ (Array.size (newT ts u q) = 448 ∧ Array.size (newT ts u q) = 448 ∧ True) ∧ (Array.size (newT ts u q) = 448 ∧ True) ∧ o = newT ts u q ∧ k = newI ts u q ∧ e = newE ts u q ∧ True))) := by kernel_rfl
theorem al0 (ts : Array Value) : (run E50 1000 0 [callFr 22 Tryd.f22.ntmps [tbS ts] (Tryd.f22.body.getD .skip)] e0M).vc nilK (fun _ _ => False) =
  ((64 ≤ Array.size ts ∧ True) ∧ (BkOk (Array.extract ts 0 64) ∧ True) ∧ (decide (List.length (issued (Array.extract ts 0 64)) = 0) = true → True) ∧ (decide (List.length (issued (Array.extract ts 0 64)) = 0) = false → False)) := by kernel_rfl
theorem al1 (ts : Array Value) (k : Nat) (cs : Array Value) : (run E50 1000 0 [callFr 22 Tryd.f22.ntmps [tbS ts] (Tryd.f22.body.getD .skip)] e0M).vc (freshA k cs 30) (fun _ _ => False) =
  ((64 ≤ Array.size ts ∧ True) ∧ (BkOk (Array.extract ts 0 64) ∧ True) ∧ (decide (List.length (issued (Array.extract ts 0 64)) = 0) = true → False) ∧ (decide (List.length (issued (Array.extract ts 0 64)) = 0) = false → k = List.length (issued (Array.extract ts 0 64)) ∧ (30 : TypeId) = (30 : TypeId) ∧ cs = u32s (issued (Array.extract ts 0 64)) ∧ True)) := by kernel_rfl
set_option linter.unusedSimpArgs false
theorem E50_ok : EnvOk E50 := EnvOk.with E0_ok _ _ conT4_ok
section
variable {ts : Array Value} {h : Int}
theorem fnAl : E0.fn 22 = some Tryd.f22 := by kernel_rfl
theorem bodyAl : Tryd.f22.body = some (Tryd.f22.body.getD .skip) := by kernel_rfl
theorem all_con (m : SMem) : Con E0 22 [tbS ts] m (.need [TbOk ts] (rowT (lvT ts) 30 m)) := by
 refine Con.asked fun hq => ?_
 have hb : TbOk ts := hq _ (by simp)
 have hs := hb.sz
 have h64 : (64 : Nat) ≤ 448 := by decide
 have hbk : BkOk (bkB ts) := hb.bk
 refine Con.two (fun hz => ?_) (fun hz => ?_)
 ·refine (show Con E0 22 [tbS ts] m (needs [] _) from Con.pure E0_ok fnAl bodyAl (by kernel_rfl) (by kernel_rfl) fun hq => ?_)
  refine (run_vc E50_ok 1000 (al0 ts) ?_ (fun s m h => h) fun fs m hm => hm.elim).mono ?_
  ·have c0 : decide ((issued (ts.extract 0 64)).length = 0) = true := hz
   simp only [c0]
   simp only [bk_f, hs, h64, hbk, true_implies, Bool.true_eq_false, false_implies, and_true, true_and]
  ·intro s m' hs
   unfold nilK at hs
   split at hs
   ·rfl
   ·exact hs.elim
 ·refine (show Con E0 22 [tbS ts] m (needs [] _) from Con.fresh E0_ok fnAl bodyAl (by kernel_rfl) rfl fun _ => ?_)
  refine Good.retX ((run_vc E50_ok 1000 (al1 ts (lvT ts).length (u32s (lvT ts))) ?_ (fun s m h => h) fun fs m hm => hm.elim).mono fun s m h => ?_)
  ·have c0 : decide ((issued (ts.extract 0 64)).length = 0) = false := hz
   simp only [c0]
   simp only [bk_f, hs, h64, hbk, true_implies, Bool.false_eq_true, false_implies, and_true, true_and]
   exact ⟨rfl, rfl⟩
  ·unfold freshA at h
   split at h
   ·exact ⟨_, h⟩
   ·exact h.elim
def fnE (ts : Array Value) (u q : Int) : Int := if (newE ts u q = 0 ∨ newE ts u q = 7) ∧ 6 ≤ depF ts u then 8 else newE ts u q
def fnT (ts : Array Value) (u q : Int) : Array Value := if fnE ts u q = 0 then nwT ts u q else ts
def fnI (ts : Array Value) (u q : Int) : Int := if fnE ts u q = 0 then issueI (bkB ts) else 0
def fnS (o : Array Value) (k e : Int) : SV := .tup [.agg (.op o), .c (.f (.int .u32 (.o k))), .c (.f (.int .i64 (.o e)))]
theorem newE_c (ts : Array Value) (u q : Int) : newE ts u q = 0 ∨ newE ts u q = 7 ∨ newE ts u q = 4 ∨ newE ts u q = 2 := by
 unfold newE
 ·exact .inr (.inr (.inl rfl))
 ·split
  ·split
   ·exact .inl rfl
   ·exact .inr (.inl rfl)
  ·exact .inr (.inr (.inr rfl))
theorem fnew_con (u q : Int) (m : SMem) : Con E0 27 [tbS ts, u32 u, i64 (.o q)] m (needs [FIn ts, inH u] (.ret (fnS (fnT ts u q) (fnI ts u q) (fnE ts u q)) m)) := by
 refine Con.pure E0_ok (by kernel_rfl : E0.fn 27 = some Tryd.f27) (by kernel_rfl : Tryd.f27.body = some (Tryd.f27.body.getD .skip)) (by kernel_rfl) (by kernel_rfl) fun hq => ?_
 have hf : FIn ts := hq _ (by simp)
 have hu : inH u := hq _ (by simp)
 have hb := hf.ok
 have hu' : 0 ≤ u ∧ u < 4294967296 := hu
 have hs := hb.sz
 refine (Good.ret [] (run_vc E50_ok 1000 (fn0 ts u q (fnT ts u q) (fnI ts u q) (fnE ts u q)) ?_ (fun s m h => h) fun _ _ h => h.elim)).mono fun _ _ h => h.1
 have hsn : (newT ts u q).size = 448 := by
  unfold newT
  split
  ·exact nw_size hb
  ·exact hs
 have d13 := dep_13 hf u
 have deep : 6 ≤ depF ts u → (newE ts u q = 0 ∨ newE ts u q = 7) → fnE ts u q = 8 ∧ fnT ts u q = ts ∧ fnI ts u q = 0 := fun hd k => by
  have e : fnE ts u q = 8 := by unfold fnE; rw [if_pos ⟨k, hd⟩]
  exact ⟨e, by unfold fnT; rw [if_neg (by rw [e]; decide)], by unfold fnI; rw [if_neg (by rw [e]; decide)]⟩
 have flat : ¬ ((newE ts u q = 0 ∨ newE ts u q = 7) ∧ 6 ≤ depF ts u) → fnE ts u q = newE ts u q ∧ fnT ts u q = newT ts u q ∧ fnI ts u q = newI ts u q := fun k => by
  have e : fnE ts u q = newE ts u q := by unfold fnE; rw [if_neg k]
  exact ⟨e, by unfold fnT newT; rw [e], by unfold fnI newI; rw [e]⟩
 by_cases hd : 6 ≤ depF ts u
 ·have dd : decide (((depF ts u : Nat) : Int) ≥ 6) = true := decide_eq_true (by omega)
  rcases newE_c ts u q with e | e | e | e
  ·obtain ⟨e1, e2, e3⟩ := deep hd (.inl e)
   have c1 : ((0 : Int) == 0) = true := rfl
   simp only [e1, e2, e3, e, dd, c1, hs, hb, hf, hu', hsn, beqT, beqF, Bool.not_true, q6]
  ·obtain ⟨e1, e2, e3⟩ := deep hd (.inr e)
   have c1 : ((7 : Int) == 0) = false := rfl
   have c2 : ((7 : Int) == 7) = true := rfl
   simp only [e1, e2, e3, e, dd, c1, c2, hs, hb, hf, hu', hsn, beqT, beqF, Bool.not_true, Bool.not_false, q6]
  ·obtain ⟨e1, e2, e3⟩ := flat (by rw [e]; rintro ⟨k | k, _⟩ <;> exact absurd k (by decide))
   have c1 : ((4 : Int) == 0) = false := rfl
   have c2 : ((4 : Int) == 7) = false := rfl
   rw [e] at e1
   simp only [e1, e2, e3, e, dd, c1, c2, hs, hb, hf, hu', hsn, beqT, beqF, Bool.not_true, Bool.not_false, q6]
  ·obtain ⟨e1, e2, e3⟩ := flat (by rw [e]; rintro ⟨k | k, _⟩ <;> exact absurd k (by decide))
   have c1 : ((2 : Int) == 0) = false := rfl
   have c2 : ((2 : Int) == 7) = false := rfl
   rw [e] at e1
   simp only [e1, e2, e3, e, dd, c1, c2, hs, hb, hf, hu', hsn, beqT, beqF, Bool.not_true, Bool.not_false, q6]
 ·have dd : decide (((depF ts u : Nat) : Int) ≥ 6) = false := decide_eq_false (by omega)
  obtain ⟨e1, e2, e3⟩ := flat fun k => hd k.2
  cases c1 : (newE ts u q == 0) <;> cases c2 : (newE ts u q == 7)
  all_goals
   simp only [e1, e2, e3, dd, c1, c2, hs, hb, hf, hu', hsn, beqT, beqF, Bool.not_true, Bool.not_false, q6]
def drN (u : Array Value) (o : List Int) : Array Value := o.foldl dropT u
theorem drN_one (u : Array Value) (o : List Int) (x : Int) : drN u (o ++ [x]) = dropT (drN u o) x := by unfold drN; rw [List.foldl_append]; rfl
theorem dropT_b {u : Array Value} (hb : TbOk u) (x : Int) : TbOk (dropT u x) := by
 unfold dropT
 ·rename_i hg; exact (drop_f hb hg).1
theorem drN_b : ∀ (o : List Int) {u : Array Value}, TbOk u → TbOk (drN u o)
 | [], _, hb => hb
 | x :: o, u, hb => drN_b o (u := dropT u x) (dropT_b hb x)
theorem take_one {l : List Int} {i : Nat} (hi : i < l.length) : l.take (i + 1) = l.take i ++ [l.getD i 0] := by
 rw [List.take_add_one, List.getElem?_eq_getElem hi, List.getD_eq_getElem?_getD, List.getElem?_eq_getElem hi]
 rfl
theorem fL_ok (hb : TbOk ts) {U : List Int} (hU : ∀ x ∈ U, inH x) (hl : U.length ≤ 32) {zz : Array Value} (hz : zz.size = 448) : ∀ (n i : Nat), i + n = U.length → Good Tryd.prog (fellA (drN ts U) U.length (u32s U)) 0 (fL_F h U.length (u32s U) (i : Int) (drN ts (U.take i)) zz) (fL_M h U.length (u32s U) (i : Int) (drN ts (U.take i)) zz) := by
 intro n
 induction n with
 | zero =>
  intro i hi
  obtain rfl : i = U.length := by omega
  refine past_vc E50_ok 1000 (flF h _ _ _ _ zz (drN ts U) (fun _ _ _ => False)) ?_ (fun _ _ h => h) (fun fs m hb => fl1_go (fun _ _ _ h => h.elim) hb)
  have d : decide ((U.length : Int) < (U.length : Int)) = false := decide_eq_false (by omega)
  have hs := (drN_b U hb).sz
  simp only [d, List.take_length, hs, hz, q6]
 | succ n ih =>
  intro i hi
  have hi' : i < U.length := by omega
  refine past_vc E50_ok 1000 (flF h _ _ (i : Int) _ zz (drN ts U) (fun i' u z => i' = ((i + 1 : Nat) : Int) ∧ u = drN ts (U.take (i + 1)) ∧ z = zz)) ?_ (fun _ _ h => h) (fun fs m hb => fl1_go (fun i' u z ⟨e1, e2, e3⟩ => by rw [e1, e2, e3]; exact ih (i + 1) (by omega)) hb)
  have d : decide ((i : Int) < (U.length : Int)) = true := decide_eq_true (by omega)
  have ei : ari .add .i64 (i : Int) 1 = ((i + 1 : Nat) : Int) := by rw [ari_add, i64_in' (by omega) (by omega)]; omega
  have g1 : IsInt .u32 (u32s U) i := isI_of (u32s_at hi')
  have g2 : intAt (u32s U) i = U.getD i 0 := intAt_of (u32s_at hi')
  have hm : U.getD i 0 ∈ U := by rw [List.getD_eq_getElem?_getD, List.getElem?_eq_getElem hi']; exact List.getElem_mem _
  have hx : 0 ≤ U.getD i 0 ∧ U.getD i 0 < 4294967296 := hU _ hm
  have y0 : 0 ≤ (i : Int) := by omega
  have y1 : (i : Int) < (U.length : Int) := by omega
  have hb1 := drN_b (U.take i) hb
  have hs1 := hb1.sz
  have hs2 := (dropT_b hb1 (U.getD i 0)).sz
  rw [take_one hi', drN_one]
  simp only [d, ei, Int.toNat_natCast, Nat.mul_one, Nat.zero_add, g1, g2, hx, y0, y1, hb1, hs1, hs2, hz, decide_true, fL_d0_ok, q6]
noncomputable def fellR (o : Array Value) (l : List Int) (m : SMem) : Tree := .ret (fellS o m.next l.length) (m.new (.pop (u32s l)) 30)
def fellT (ts : Array Value) (h : Int) : Array Value := drN ts (unT ts h)
noncomputable def fellC (ts : Array Value) (h : Int) (m : SMem) : Tree := .br (decide ((unT ts h).length = 0)) (.ret (fellN ts) m) (fellR (fellT ts h) (unT ts h) m)
theorem fnFe : E0.fn 20 = some Tryd.f20 := by kernel_rfl
theorem bodyFe : Tryd.f20.body = some (Tryd.f20.body.getD .skip) := by kernel_rfl
theorem Con.freshU {E : Env} (hE : EnvOk E) {g : FuncId} {l : List SV} {m : SMem} {n : Nat} {o rs : Array Value} {ty : TypeId} {fn : Func} {c : Code} (h1 : E.fn g = some fn) (h2 : fn.body = some c) (hl0 : allB noIds l = true)
  (h : Good E.P (fun s m' => s = fellS o 0 n ∧ m' = ⟨1, Tr.nil.set 0 (some ⟨.pop rs, ty, true⟩), []⟩) 0 [callFr g fn.ntmps l c] ⟨0, .nil, []⟩) :
  Con E g l m (.ret (fellS o m.next n) (m.new (.pop rs) ty)) := by
 intro A hA
 refine ⟨fn, h1, by rw [h2]; rfl, fun n0 F w0 w R args hl hR => ?_⟩
 refine (answers_of_good (m := ⟨0, .nil, []⟩) (hE.fns _ _ h1).1 h2 h (ok_anys hl0 hl) hR.none).mono ?_
 rintro v w' ⟨s, m', R', ⟨rfl, rfl⟩, hX, hR', hv⟩
 have hb0 : getB (Tr.nil.set 0 (some ⟨.pop rs, ty, true⟩)) 0 = some ⟨.pop rs, ty, true⟩ := rfl
 obtain ⟨gl, cs, fz, e1, e2, e3, e4, e5⟩ := hR'.blk 0 _ hb0
 obtain ⟨e6, ez⟩ := e5 rfl
 have e7 : w.heap.size ≤ gl.b := e6.resolve_right fun x => x
 obtain ⟨R2, k1, k2, k3⟩ := hR.grow hR'.fr.to e7 (hR'.lt 0 gl e1) e2 e3 (free_ok (a := .pop rs) (R' := R) rfl e4) ez
 obtain ⟨vs, rfl, hvs⟩ := hv
 refine ⟨_, _, R2, hA, k1, k3, vs, rfl, ?_⟩
 match hl : vs.toList, hvs with
 | [a, b, d], ⟨q0, ⟨g, cp, f1, q1, f2, f3⟩, q2, _⟩ =>
  rw [e1] at f1
  cases f1
  exact ⟨q0, ⟨gl, cp, k2, q1, f2, f3⟩, q2, trivial⟩
theorem fell_con (h : Int) (m : SMem) : Con E0 20 [tbS ts, u32 h] m (.need [FIn ts, inH h] (fellC ts h m)) := by
 refine Con.asked fun hq => ?_
 have hf : FIn ts := hq _ (by simp)
 have hb := hf.ok
 have hh : inH h := hq _ (by simp)
 have hh' : 0 ≤ h ∧ h < 4294967296 := hh
 have hs := hb.sz
 have h64 : (64 : Nat) ≤ 448 := by decide
 have hbk : BkOk (bkB ts) := hb.bk
 have hU : gdF ts h = true → unT ts h = UNL ts h := fun hg => if_pos hg
 have hgd : gdF ts h = false ↔ (unT ts h).length = 0 := by
  constructor
  ·intro k; unfold unT; rw [k]; rfl
  ·intro k
   cases c : gdF ts h with
   | false => rfl
   | true =>
    rw [hU c, unl_cons hf ((lv_mem hb).2 c)] at k
    cases k
 refine Con.two (fun hz => ?_) (fun hz => ?_)
 ·have hg : goodB (bkB ts) h = false := hgd.2 (of_decide_eq_true hz)
  refine (show Con E0 20 [tbS ts, u32 h] m (needs [] _) from Con.pure E0_ok fnFe bodyFe (by kernel_rfl) (by kernel_rfl) fun hq => ?_)
  refine (Good.ret [] (run_vc E50_ok 1000 (flN ts h 0 #[] (fun _ _ _ => False)) ?_ (fun s m h => h) fun fs m hm => fl0_go (fun _ _ _ e => e.elim) hm)).mono fun _ _ h => h.1
  simp only [bk_f, hg, hs, h64, hbk, hh', Bool.not_false, true_implies, Bool.true_eq_false, false_implies, and_true, true_and]
 ·have hne : ¬ (unT ts h).length = 0 := of_decide_eq_false hz
  have hg' : gdF ts h = true := by
   cases c : gdF ts h with
   | true => rfl
   | false => exact absurd (hgd.1 c) hne
  have hg : goodB (bkB ts) h = true := hg'
  have hl := (lv_mem hb).2 hg'
  have h32 : (unT ts h).length ≤ 32 := by rw [hU hg']; exact un_32 hf hl
  have hin : ∀ x ∈ unT ts h, inH x := fun x hx => by
   rw [hU hg'] at hx
   exact lv_in hb (.inr (un_sub hf.fo h hl x hx).1)
  refine Con.freshU E0_ok fnFe bodyFe (by kernel_rfl) (Good.retX ((run_vc E50_ok 1000 (flF0 ts h (unT ts h).length (u32s (unT ts h)) (fellT ts h) (fun i u z => i = ((0 : Nat) : Int) ∧ u = drN ts ((unT ts h).take 0) ∧ z = zT)) ?_ (fun s m h => h) fun fs m hm => fl0_go (A := fellA (fellT ts h) (unT ts h).length (u32s (unT ts h))) (fun i u z ⟨e1, e2, e3⟩ => by rw [e1, e2, e3]; exact fL_ok hb hin h32 zT_sz _ 0 (Nat.zero_add _)) hm).mono fun s m h => ?_))
  ·simp only [bk_f, hg, hz, hs, h64, hbk, hf, hh', Bool.not_true, fL_d0_ok, q6]
   exact ⟨rfl, rfl⟩
  ·unfold fellA at h
   split at h
   ·exact ⟨_, h⟩
   ·exact h.elim
end
theorem conT5_ok : ∀ g l m t, conT5 g l m = some t → Con E0 g l m t := by
 intro g l m t h
 unfold conT5 at h
 ·rename_i ts x; cases h
  refine Con.asked fun hq => Con.args (l' := [tbS ts, u32 x.den]) (fun R vs ha => by
   match vs, ha with
   | [v, w], ha => exact ⟨ha.1, ha.2.1, trivial⟩) ?_
  intro A hs
  exact cut_con x.den m A ⟨fun p hp => hq p hp, hs⟩
 ·rename_i ts x u; cases h
  refine Con.asked fun hq => Con.args (l' := [tbS ts, u32 x.den, u32 u.den]) (fun R vs ha => by
   match vs, ha with
   | [v, w, z], ha => exact ⟨ha.1, ha.2.1, ha.2.2.1, trivial⟩) ?_
  intro A hs
  exact graft_con x.den u.den m A ⟨fun p hp => hq p hp, hs⟩
 ·rename_i ts; cases h
  exact all_con m
 ·exact conT4_ok _ _ _ _ h
def D6 (ts : Array Value) : Prop := ∀ x ∈ lvT ts, depL (upF ts) x ≤ 6
theorem isB_ok {b : Bool} {s : SV} {m : SMem} {R R' : Ren} {v : Value} (hs : isB b s m) (hv : s.ok R v) : (sB (.l b)).ok R' v := by
 unfold isB at hs
 ·have hv : v = .bool _ := hv
  rw [hv, hs]; rfl
def OD (ts : Array Value) : Prop := ∀ x, gdF ts x = true → upR ts x = 0 ∨ usedB (bkB ts) (upR ts x)
structure FV (ts : Array Value) : Prop where
 f : FIn ts
 d : D6 ts
 o : OD ts
def vEq : Option Value → Option Value → Bool
 | some (.int k a), some (.int k' b) => decide (k = k') && decide (a = b)
 | some (.slice none 0 0), some (.slice none 0 0) => true
 | _, _ => false
theorem vEq_ok {a b : Option Value} (h : vEq a b = true) : a = b := by
 unfold vEq at h
 ·simp only [Bool.and_eq_true, decide_eq_true_eq] at h
  rw [h.1, h.2]
 ·cases h
theorem zT_book : ∀ i, i < 32 → vEq (zT[i * 2]?) (some (.int .u32 0)) = true ∧ vEq (zT[i * 2 + 1]?) (some (.int .u8 0)) = true := by decide +kernel
theorem zT_rg : ∀ i, i < 32 → ∀ k, k < 12 → vEq (zT[64 + i * 12 + k]?) ((rgA 0 0 0 fun _ => 0)[k]?) = true := by decide +kernel
theorem z_bk {i : Nat} (hi : i < 32) : (bkB zT)[i * 2]? = some (.int .u32 0) ∧ (bkB zT)[i * 2 + 1]? = some (.int .u8 0) := by
 obtain ⟨h1, h2⟩ := zT_book i hi
 have h1 := vEq_ok h1
 have h2 := vEq_ok h2
 have hs := zT_sz
 unfold bkB
 rw [ext_get (by omega) (by omega), ext_get (by omega) (by omega), Nat.zero_add, Nat.zero_add]
 exact ⟨h1, h2⟩
theorem z_kind {i : Nat} (hi : i < 32) : kindAt (bkB zT) i = 0 := intAt_of (z_bk hi).2
theorem z_age {i : Nat} (hi : i < 32) : ageAt (bkB zT) i = 0 := intAt_of (z_bk hi).1
theorem z_bkok : BkOk (bkB zT) := by
 refine ⟨by unfold bkB; rw [ext_size (by rw [zT_sz]; decide)], fun i hi => isI_of (z_bk hi).1, fun i hi => isI_of (z_bk hi).2, fun i hi => ?_, fun i hi => ?_⟩
 ·rw [z_age hi]; exact ⟨by decide, by decide⟩
 ·rw [z_kind hi]; exact ⟨by decide, by decide⟩
theorem z_tb : TbOk zT := ⟨zT_sz, z_bkok, fun i hi => (rg_new (us := zT) (p := 64 + i * 12) (u := 0) (q := 0) (c := fun _ => 0) (fun k hk => vEq_ok (zT_rg i hi k hk)) ⟨by decide, by decide⟩ ⟨by decide, by decide⟩ (fun _ _ => ⟨by decide, by decide⟩)).1⟩
theorem z_gd (x : Int) : gdF zT x = false := by
 cases c : gdF zT x with
  obtain ⟨_, _, s3, s4, _⟩ := good_f z_tb c
  rw [z_kind s3] at s4
  exact absurd s4 (by decide)
theorem z_lv : lvT zT = [] := by
 cases e : lvT zT with
 | nil => rfl
 | cons a l =>
  have : a ∈ lvT zT := by rw [e]; exact List.mem_cons_self ..
  have := (lv_mem z_tb).1 this
  rw [z_gd] at this
  cases this
theorem FV_zero : FV zT := by
 refine ⟨fo_of z_tb fun x hx => ?_, fun x hx => ?_, fun x hx => ?_⟩
 ·rw [z_gd] at hx; cases hx
 ·rw [z_lv] at hx; cases hx
 ·rw [z_gd] at hx; cases hx
theorem used_good (hb : TbOk ts) {x : Int} (hx : gdF ts x = true) : usedB (bkB ts) x := by
 obtain ⟨i, hi, hk, e⟩ := (goodB_iff hb.bk).1 hx
 exact ⟨i, ageAt (bkB ts) i, hi, (hb.bk.ra i hi).1, e, .inr ⟨rfl, by rw [hk]; decide⟩⟩
theorem rt_ch_eq {up up' : Int → Int} {x y : Int} (h : chL up' x = chL up y) : rtL up' x = rtL up y := by unfold rtL; rw [h]
theorem cut_f (hv : FV ts) (hg : gdF ts h = true) : FV (cutT ts h) ∧ bkB (cutT ts h) = bkB ts ∧ ∀ x ∈ UNL ts h, gdF (cutT ts h) x = true ∧ rtF (cutT ts h) x = h ∧ ∀ k, k < 8 → ceF (cutT ts h) x k = clC ts h (ceF ts x k) := by
 have hb := hv.f.ok
 obtain ⟨k1, k2, k3, k4, k5⟩ := cut_in hv.f hg
 have hl : h ∈ lvT ts := (lv_mem hb).2 hg
 have elv := lv_bk k2
 have hl' : h ∈ lvT (raS ts h 0) := by rw [elv]; exact hl
 have eT : cutT ts h = cuN ts h (raS ts h 0) (UNL (raS ts h 0) h) := if_pos hg
 obtain ⟨c1, c2, c3⟩ := cu_f (ts := ts) (h := h) (UNL (raS ts h 0) h) k1.ok (fun x hx => (lv_mem k1.ok).1 (un_sub k1.fo h hl' x hx).1)
 obtain ⟨r1, r2, r3, r4, r5⟩ := raS_f (u := 0) hb hg ⟨by decide, by decide⟩
 rw [eT]
 have ebk := c2.trans k2
 have hup : ∀ x ∈ lvT (raS ts h 0), upF (cuN ts h (raS ts h 0) (UNL (raS ts h 0) h)) x = upF (raS ts h 0) x := fun x hx => up_bk c2 (c3 x ((lv_mem k1.ok).1 hx)).1
 obtain ⟨f1, f2⟩ := fo_same k1.fo hup
 have elv2 : lvT (cuN ts h (raS ts h 0) (UNL (raS ts h 0) h)) = lvT (raS ts h 0) := lv_bk c2
 refine ⟨⟨⟨c1, by rw [elv2]; exact f1⟩, fun x hx => ?_, fun x hx => ?_⟩, ebk, fun x hx => ?_⟩
 ·rw [elv2] at hx
  have e := f2 x (.inr hx)
  rw [elv] at hx
  have : depL (upF (cuN ts h (raS ts h 0) (UNL (raS ts h 0) h))) x = depL (upF (raS ts h 0)) x := by unfold depL; rw [e]
  rw [this]
  exact Nat.le_trans (k3 x hx) (hv.d x hx)
 ·rw [gd_bk ebk] at hx
  rw [(c3 x (by rw [gd_bk k2]; exact hx)).1, ebk]
  by_cases e : x = h
  ·rw [e, r3]; exact .inl rfl
  ·rw [r4 x hx e]; exact hv.o x hx
 ·obtain ⟨x1, x2⟩ := un_sub hv.f.fo h hl x hx
  have xg := (lv_mem hb).1 x1
  have x1' : x ∈ lvT (raS ts h 0) := by rw [elv]; exact x1
  have xg' : gdF (cuN ts h (raS ts h 0) (UNL (raS ts h 0) h)) x = true := by rw [gd_bk ebk]; exact xg
  refine ⟨xg', ?_, fun k hk => ?_⟩
  ·unfold rtF
   rw [if_pos xg', rt_ch_eq (f2 x (.inr x1'))]
   exact k5 x (.inr x1) x2
  ·have hm : x ∈ UNL (raS ts h 0) h := (un_mem k1.fo hl').2 ⟨x1', (k4 x (.inr x1)).2 x2⟩
   rw [(c3 x (by rw [gd_bk k2]; exact xg)).2.2 k hk, if_pos hm, (r5 x).2 k hk]
theorem FV_cut (hv : FV ts) (h : Int) : FV (cutT ts h) := by
 cases hg : gdF ts h with
 | true => exact (cut_f hv hg).1
 | false => unfold cutT; rw [hg]; exact hv
theorem graft_f (hv : FV ts) {u : Int} (hu : inH u) : FV (grT ts h u) ∧ (grE ts h u = 0 → rtF (grT ts h u) h = rtF ts u ∧ gdF ts h = true ∧ bkB (grT ts h u) = bkB ts) := by
 by_cases hE : grE ts h u = 0
 ·have e : grT ts h u = ts := by unfold grT; rw [if_neg hE]
  exact ⟨hv, fun k => absurd k hE⟩
 have hb := hv.f.ok
 have eT : grT ts h u = raS ts h u := by unfold grT; rw [if_pos hE]
 unfold grE at hE
 split at hE
 ·exact absurd hE (by decide)
 rename_i n1
 split at hE
 ·exact absurd hE (by decide)
 rename_i n2
 split at hE
 ·exact absurd hE (by decide)
 rename_i h6
 rw [not_or] at n1 n2
 have hg : gdF ts h = true := by cases c : gdF ts h with | true => rfl | false => exact absurd c n1.1
 have hgu : gdF ts u = true := by cases c : gdF ts u with | true => rfl | false => exact absurd c n1.2
 have hr : rtF ts h = h := Decidable.not_not.1 n2.1
 have ho : outF ts h u ≠ true := n2.2
 have hlu := (lv_mem hb).2 hgu
 obtain ⟨r1, r2, r3, r4, r5⟩ := raS_f (u := u) hb hg hu
 have er : rtF ts h = rtL (upF ts) h := if_pos hg
 have h0r : upF ts h = 0 := (rt_root hv.f.fo hl).1 (by rw [← er]; exact hr)
 have hnot : h ∉ chL (upF ts) u := fun k => ho (by unfold outF; rw [hgu, decide_eq_true k]; rfl)
 have h0 : upF (raS ts h u) h = u := by unfold upF; rw [gd_bk r2, gd_bk r2, r3, if_pos hg, if_pos hgu]
 have hsm : ∀ x ∈ lvT ts, x ≠ h → upF (raS ts h u) x = upF ts x := fun x hx hne => up_bk r2 (r4 x ((lv_mem hb).1 hx) hne)
 have hd6 : ∀ x ∈ lvT ts, h ∈ chL (upF ts) x → depL (upF ts) x + depL (upF ts) u ≤ 6 := fun x hx hc => by
  have := h6 x ((un_mem hv.f.fo hl).2 ⟨hx, hc⟩)
  unfold depF at this
  rw [if_pos ((lv_mem hb).1 hx), if_pos hgu] at this
  exact this
 obtain ⟨f1, f2, f3⟩ := graft_ch hv.f.fo hl h0r hlu hnot h0 hsm (fun x hx hc => by have := hd6 x hx hc; omega)
 have elv := lv_bk r2
 rw [eT]
 refine ⟨⟨⟨r1, by rw [elv]; exact f1⟩, fun x hx => ?_, fun x hx => ?_⟩, fun _ => ⟨?_, hg, r2⟩⟩
 ·rw [elv] at hx
  unfold depL
  by_cases c : h ∈ chL (upF ts) x
  ·rw [f3 x (.inr hx) c, List.length_append]
   exact hd6 x hx c
  ·rw [f2 x (.inr hx) c]
   exact hv.d x hx
 ·rw [gd_bk r2] at hx
  rw [r2]
  by_cases e : x = h
  ·rw [e, r3]; exact .inr (used_good hb hgu)
  ·rw [r4 x hx e]; exact hv.o x hx
 ·unfold rtF
  rw [gd_bk r2, if_pos hg, if_pos hgu]
  exact graft_rt hv.f.fo f1 hl hlu hnot h0 hsm
theorem FV_drop (hv : FV ts) (hg : gdF ts h = true) : FV (drT ts h) := by
 have hb := hv.f.ok
 obtain ⟨r1, r2, r3, r4⟩ := drop_f hb hg
 have hm : ∀ x, x ∈ lvT (drT ts h) ↔ x ∈ lvT ts ∧ x ≠ h := fun x => by
  rw [lv_mem r1, lv_mem hb, r3, Bool.and_eq_true, Bool.not_eq_true', decide_eq_false_iff_not]
 have hup : ∀ x ∈ lvT (drT ts h), upF (drT ts h) x = if upF ts x = h then 0 else upF ts x := fun x hx => by
  obtain ⟨k1, k2⟩ := (hm x).1 hx
  exact drop_up hb hg ((lv_mem hb).1 k1) k2
 obtain ⟨f1, f2⟩ := fo_sub (L' := lvT (drT ts h)) (up' := upF (drT ts h)) hv.f.fo (issued_nodup r1.bk) (fun x hx => ((hm x).1 hx).1) (fun x hx => by
  rw [hup x hx]
  ·exact .inr rfl
  ·exact .inl rfl) (fun x hx => by
  rw [hup x hx]
  ·rename_i c
   rcases hv.f.fo.cl x ((hm x).1 hx).1 with k | k
   ·exact .inl k
   ·exact .inr ((hm _).2 ⟨k, c⟩))
 refine ⟨⟨r1, f1⟩, fun x hx => Nat.le_trans (f2 x hx) (hv.d x ((hm x).1 hx).1), fun x hx => ?_⟩
 have hx' := (lv_mem r1).2 hx
 obtain ⟨k1, k2⟩ := (hm x).1 hx'
 have kg := (lv_mem hb).1 k1
 rw [(r4 x kg k2).1, r2]
 exact (hv.o x kg).imp id used_void_of
where
 used_void_of {x : Int} : usedB (bkB ts) x → usedB (voidB (bkB ts) h) x := fun k => used_void hv.f.ok.bk k
theorem drN_f : ∀ (o : List Int) {ts : Array Value}, FV ts → o.Nodup → (∀ x ∈ o, gdF ts x = true) → FV (drN ts o) ∧ ∀ x, gdF (drN ts o) x = (gdF ts x && !decide (x ∈ o))
 | [], ts, hv, _, _ => ⟨hv, fun x => by simp [drN]⟩
 | y :: o, ts, hv, hn, hg => by
  have hgy := hg y (List.mem_cons_self ..)
  obtain ⟨n1, n2⟩ := List.nodup_cons.1 hn
  have e : dropT ts y = drT ts y := if_pos hgy
  obtain ⟨_, _, r3, _⟩ := drop_f hv.f.ok hgy
  have key := drN_f o (ts := drT ts y) (FV_drop hv hgy) n2 fun x hx => by
   rw [r3, hg x (List.mem_cons_of_mem _ hx), decide_eq_false (fun k => n1 (by rw [← k]; exact hx))]
   rfl
  show FV (drN (dropT ts y) o) ∧ ∀ x, gdF (drN (dropT ts y) o) x = _
  refine ⟨key.1, fun x => ?_⟩
  rw [key.2, r3]
  by_cases c : x = y
  ·simp [c]
  ·by_cases d : x ∈ o
   ·simp [c, d]
   ·simp [c, d]
theorem fell_f (hv : FV ts) (hg : gdF ts h = true) : FV (fellT ts h) ∧ (lvT ts).length = (unT ts h).length + (lvT (fellT ts h)).length := by
 have hb := hv.f.ok
 have eU : unT ts h = UNL ts h := if_pos hg
 have hn : (unT ts h).Nodup := by rw [eU]; exact un_nodup hv.f.fo h hl
 have hsub : ∀ x ∈ unT ts h, x ∈ lvT ts := fun x hx => by rw [eU] at hx; exact (un_sub hv.f.fo h hl x hx).1
 obtain ⟨k1, k2⟩ := drN_f (unT ts h) hv hn fun x hx => (lv_mem hb).1 (hsub x hx)
 have k1 : FV (fellT ts h) := k1
 refine ⟨k1, ?_⟩
 have hm : ∀ x, x ∈ lvT (fellT ts h) ↔ x ∈ lvT ts ∧ x ∉ unT ts h := fun x => by
  rw [lv_mem k1.f.ok, lv_mem hb]
  show gdF (drN ts (unT ts h)) x = true ↔ _
  rw [k2, Bool.and_eq_true, Bool.not_eq_true', decide_eq_false_iff_not]
 have hnd : (unT ts h ++ lvT (fellT ts h)).Nodup := by
  rw [List.nodup_append]
  refine ⟨hn, issued_nodup k1.f.ok.bk, fun a ha b hb' e => ?_⟩
  rw [e] at ha
  exact ((hm b).1 hb').2 ha
 rw [← List.length_append]
 refine Nat.le_antisymm (nodup_le (issued_nodup hb.bk) fun x hx => ?_) (nodup_le hnd fun x hx => ?_)
 ·by_cases c : x ∈ unT ts h
  ·exact List.mem_append_left _ c
  ·exact List.mem_append_right _ ((hm x).2 ⟨hx, c⟩)
 ·rcases List.mem_append.1 hx with c | c
  ·exact hsub x c
  ·exact ((hm x).1 c).1
theorem FV_new (hv : FV ts) {u q : Int} (hu : inH u) : FV (fnT ts u q) := by
 by_cases hE : fnE ts u q = 0
 ·have e : fnT ts u q = ts := by unfold fnT; rw [if_neg hE]
  rw [e]; exact hv
 have hb := hv.f.ok
 have eT : fnT ts u q = nwT ts u q := by unfold fnT; rw [if_pos hE]
 unfold fnE at hE
 split at hE
 ·exact absurd hE (by decide)
 rename_i n1
 have hdep : depF ts u ≤ 5 := by
  rcases Nat.lt_or_ge (depF ts u) 6 with c | c
  ·omega
  ·exact absurd ⟨.inl hE, c⟩ n1
 unfold newE at hE
 split at hE
 ·exact absurd hE (by decide)
 rename_i n2
 split at hE
 ·exact absurd hE (by decide)
 rename_i hq
 split at hE
 ·exact absurd hE (by decide)
 rename_i ho
 have hu2 : u = 0 ∨ u ∈ lvT ts := by
  by_cases c : u = 0
  ·exact .inl c
  ·refine .inr ((lv_mem hb).2 ?_)
   cases d : gdF ts u with
   | false => exact absurd ⟨c, d⟩ n2
 obtain ⟨r1, r2, r3, r4, r5⟩ := nw_f hb ho (u := u) (q := q) hu hq
 obtain ⟨i1, i2, _⟩ := iss_new hb ho
 have hdu : depL (upF ts) u ≤ 5 := by
  rcases hu2 with c | c
  ·rw [c, dep_zero]; omega
  ·have e : depF ts u = depL (upF ts) u := if_pos ((lv_mem hb).1 c)
   omega
 have hm : ∀ x, x ∈ lvT (nwT ts u q) ↔ x ∈ lvT ts ∨ x = issueI (bkB ts) := fun x => by
  rw [lv_mem r1, lv_mem hb, r3, Bool.or_eq_true, decide_eq_true_eq]
 have hc : issueI (bkB ts) ∉ lvT ts := fun k => by
  rw [lv_mem hb, i1] at k; cases k
 have h0 : upF (nwT ts u q) (issueI (bkB ts)) = u := by
  have g : gdF (nwT ts u q) (issueI (bkB ts)) = true := by rw [r3, decide_eq_true rfl, Bool.or_true]
  unfold upF
  rw [if_pos g, r4.1]
  rcases hu2 with c | c
  ·rw [c]; split <;> rfl
  ·rw [if_pos (by rw [r3, (lv_mem hb).1 c]; rfl)]
 have hsm : ∀ x ∈ lvT ts, upF (nwT ts u q) x = upF ts x := fun x hx => by
  have g := (lv_mem hb).1 hx
  have g' : gdF (nwT ts u q) x = true := by rw [r3, g]; rfl
  have hne : upR ts x ≠ issueI (bkB ts) := fun k => by
   rcases hv.o x g with c | c
   ·exact i2 (k.symm.trans c)
   ·rw [k] at c
    exact (used_new hb.bk ho).2 c
  unfold upF
  rw [if_pos g, if_pos g', (r5 x g).1, r3, decide_eq_false hne, Bool.or_false]
 obtain ⟨f1, f2, f3⟩ := new_ch hv.f.fo (issued_nodup r1.bk) hm hc i2 hu2 h0 hsm (by omega)
 rw [eT]
 refine ⟨⟨r1, f1⟩, fun x hx => ?_, fun x hx => ?_⟩
 ·rcases (hm x).1 hx with k | k
  ·unfold depL
   rw [f2 x (.inr k)]
   exact hv.d x k
  ·rw [k, f3]; omega
 ·rcases (hm x).1 ((lv_mem r1).2 hx) with k | k
  ·have g := (lv_mem hb).1 k
   rw [(r5 x g).1, r2]
   exact (hv.o x g).imp id fun k => used_issue hb.bk k
  ·rw [k, r4.1, r2]
   rcases hu2 with c | c
   ·exact .inl c
   ·exact .inr (used_issue hb.bk (used_good hb ((lv_mem hb).1 c)))
theorem FV_set (hv : FV ts) (hg : gdF ts h = true) {rr : Array Value} (hr : RgOk rr 0) : FV (setT ts h rr) := by
 have hb := hv.f.ok
 obtain ⟨r1, r2, r3, _⟩ := set_f hb hg hr
 have elv := lv_bk r2
 obtain ⟨f1, f2⟩ := fo_same (up' := upF (setT ts h rr)) hv.f.fo fun x hx => up_bk r2 (r3 x ((lv_mem hb).1 hx))
 refine ⟨⟨r1, by rw [elv]; exact f1⟩, fun x hx => ?_, fun x hx => ?_⟩
 ·rw [elv] at hx
  unfold depL
  rw [f2 x (.inr hx)]
  exact hv.d x hx
 ·rw [gd_bk r2] at hx
  rw [r3 x hx, r2]
  exact hv.o x hx
def gnW (ws : Array Value) (i : Nat) : Int := intAt ws i
def knW (ws : Array Value) (i : Nat) : Int := intAt ws (32 + i)
structure WB (ws : Array Value) : Prop where
 sz : ws.size = 64
 g : ∀ i, i < 32 → IsInt .i64 ws i
 s : ∀ i, i < 32 → IsInt .i64 ws (32 + i)
 rg : ∀ i, i < 32 → 0 ≤ gnW ws i ∧ gnW ws i ≤ 8388607
 rs : ∀ i, i < 32 → 0 ≤ knW ws i ∧ knW ws i ≤ 2
noncomputable def wbS (ws : Array Value) : SV := .s (.agg (.op ws))
def slFrom (ws : Array Value) (h : Int) : Nat → Nat → Int | 0, _ => -1 | k + 1, i => if knW ws i = 1 ∧ nameI i (gnW ws i) = h then (i : Int) else slFrom ws h k (i + 1)
def slW (ws : Array Value) (h : Int) : Int := slFrom ws h 32 0
noncomputable def conI0 (g : FuncId) (l : List SV) (m : SMem) : Option Tree := match g, l with
 | 37, [.s (.agg (.op ws)), .s (.c (.f (.int .i64 i)))] => some (.need [WB ws, 0 ≤ i.den ∧ i.den < 32] (.ret (i64 (.o (nameI i.den.toNat (gnW ws i.den.toNat)))) m))
 | g, l => conT5 g l m
noncomputable def EI0 : Env := ⟨Tryd.prog, fnOf, conT5, haltAt []⟩
noncomputable def EIs : Env := ⟨Tryd.prog, fnOf, conI0, haltAt [57 * 1000 + 2, 71 * 1000 + 2]⟩
noncomputable def rS_d0 : List SIt := sekF Tryd.f57 2
noncomputable def rS_F (ws : Array Value) (h : Int) (i : Int) : List SFr := [frOf 57 Tryd.f57 [(1, i64 (.o h)), (2, ptr 0 (.l 0)), (5, i64 (.o i))] rS_d0]
noncomputable def rS_M (ws : Array Value) (h : Int) (i : Int) : SMem := mkM 1 [(0, ⟨.op ws, 42, true⟩)]
noncomputable def rS_n (ws : Array Value) (h : Int) (Q : Int → Prop) (fs : List SFr) (m : SMem) : Prop := (match frNth fs 0 with | some f0 => (match rdI f0 5 with | some i => (match rdP f0 2 with | some p0 => Q i ∧ subOk 0 [(0, p0)] (rS_F ws h i) (rS_M ws h i) fs m | none => False) | none => False) | none => False)
noncomputable def rI_d0 : List SIt := sekF Tryd.f71 2
noncomputable def rI_F (ws : Array Value) (i : Int) (zz : Array Value) : List SFr := [frOf 71 Tryd.f71 [(1, ptr 0 (.l 0)), (2, ptr 1 (.l 0)), (4, i64 (.o i))] rI_d0]
noncomputable def rI_M (ws : Array Value) (i : Int) (zz : Array Value) : SMem := mkM 2 [(0, ⟨.op ws, 42, true⟩), (1, ⟨.op zz, 42, true⟩)]
noncomputable def rI_n (ws : Array Value) (Q : Int → Array Value → Prop) (fs : List SFr) (m : SMem) : Prop := (match frNth fs 0 with | some f0 => (match rdI f0 4 with | some i => (match rdP f0 1 with | some p0 => (match rdP f0 2 with | some p1 => (match rdA m p1 with | some zz => Q i zz ∧ subOk 0 [(0, p0), (1, p1)] (rI_F ws i zz) (rI_M ws i zz) fs m | none => False) | none => False) | none => False) | none => False) | none => False)
noncomputable def rs0_t (ws : Array Value) (h : Int) : Tree := run EIs 1000 0 [callFr 57 Tryd.f57.ntmps [wbS ws, i64 (.o h)] (Tryd.f57.body.getD .skip)] e0M
noncomputable def rs0_x (ws : Array Value) (h : Int) (QrS : Int → Prop) (fs : List SFr) (m : SMem) : Prop := rS_n ws h QrS fs m
noncomputable def rs1_t (ws : Array Value) (h : Int) (i : Int) : Tree := stepT EIs.go (run EIs 1000) 0 (rS_F ws h i) (rS_M ws h i)
noncomputable def rs1_x (ws : Array Value) (h : Int) (i : Int) (QrS : Int → Prop) (fs : List SFr) (m : SMem) : Prop := rS_n ws h QrS fs m
noncomputable def ri0_t (ws : Array Value) : Tree := run EIs 1000 0 [callFr 71 Tryd.f71.ntmps [wbS ws] (Tryd.f71.body.getD .skip)] e0M
noncomputable def ri0_x (ws : Array Value) (QrI : Int → Array Value → Prop) (fs : List SFr) (m : SMem) : Prop := rI_n ws QrI fs m
noncomputable def ri1_t (ws : Array Value) (i : Int) (zz : Array Value) : Tree := stepT EIs.go (run EIs 1000) 0 (rI_F ws i zz) (rI_M ws i zz)
noncomputable def ri1_x (ws : Array Value) (i : Int) (zz : Array Value) (QrI : Int → Array Value → Prop) (fs : List SFr) (m : SMem) : Prop := rI_n ws QrI fs m
theorem rS_d0_ok (r : Nat → Option Nat) : TodoOk r rS_d0 rS_d0 := TodoOk.it (by kernel_rfl)
theorem rI_d0_ok (r : Nat → Option Nat) : TodoOk r rI_d0 rI_d0 := TodoOk.it (by kernel_rfl)
theorem rS_good {A : SV → SMem → Prop} {ws : Array Value} {h : Int} {Q : Int → Prop} {fs : List SFr} {m : SMem} (H : ∀ i, Q i → Good Tryd.prog A 0 (rS_F ws h i) (rS_M ws h i)) (hb : rS_n ws h Q fs m) : Good Tryd.prog A 0 fs m := by
 unfold rS_n at hb
 exact Good.of_sub hb.2 (H _ hb.1)
theorem rI_good {A : SV → SMem → Prop} {ws : Array Value} {Q : Int → Array Value → Prop} {fs : List SFr} {m : SMem} (H : ∀ i zz, Q i zz → Good Tryd.prog A 0 (rI_F ws i zz) (rI_M ws i zz)) (hb : rI_n ws Q fs m) : Good Tryd.prog A 0 fs m := by
 unfold rI_n at hb
 exact Good.of_sub hb.2 (H _ _ hb.1)
theorem rs0_go {A : SV → SMem → Prop} {ws : Array Value} {h : Int} {QrS : Int → Prop} {fs : List SFr} {m : SMem} (hrS : ∀ i', QrS i' → Good Tryd.prog A 0 (rS_F ws h i') (rS_M ws h i')) (hb : rs0_x ws h QrS fs m) : Good Tryd.prog A 0 fs m := by
 unfold rs0_x at hb
 exact rS_good hrS hb
theorem rs1_go {A : SV → SMem → Prop} {ws : Array Value} {h : Int} {i : Int} {QrS : Int → Prop} {fs : List SFr} {m : SMem} (hrS : ∀ i', QrS i' → Good Tryd.prog A 0 (rS_F ws h i') (rS_M ws h i')) (hb : rs1_x ws h i QrS fs m) : Good Tryd.prog A 0 fs m := by
 unfold rs1_x at hb
 exact rS_good hrS hb
theorem ri0_go {A : SV → SMem → Prop} {ws : Array Value} {QrI : Int → Array Value → Prop} {fs : List SFr} {m : SMem} (hrI : ∀ i' zz', QrI i' zz' → Good Tryd.prog A 0 (rI_F ws i' zz') (rI_M ws i' zz')) (hb : ri0_x ws QrI fs m) : Good Tryd.prog A 0 fs m := by
 unfold ri0_x at hb
 exact rI_good hrI hb
theorem ri1_go {A : SV → SMem → Prop} {ws : Array Value} {i : Int} {zz : Array Value} {QrI : Int → Array Value → Prop} {fs : List SFr} {m : SMem} (hrI : ∀ i' zz', QrI i' zz' → Good Tryd.prog A 0 (rI_F ws i' zz') (rI_M ws i' zz')) (hb : ri1_x ws i zz QrI fs m) : Good Tryd.prog A 0 fs m := by
 unfold ri1_x at hb
 exact rI_good hrI hb
theorem of0 (ws : Array Value) (i : Int) (o : Int) : (run EI0 1000 0 [callFr 37 Tryd.f37.ntmps [wbS ws, i64 (.o i)] (Tryd.f37.body.getD .skip)] e0M).vc (retOk 0 [] (i64 (.o o)) e0M) (fun _ _ => False) =
  (((0 ≤ i ∧ i < 32) ∧ True) ∧ (IsInt .i64 ws (0 + Int.toNat i * 1) ∧ True) ∧ o = ari .add .i64 (ari .add .i64 i (ari .mul .i64 (256 : Int) (intAt ws (0 + Int.toNat i * 1)))) (1 : Int) ∧ True) := by kernel_rfl
theorem rs0F (ws : Array Value) (h o : Int) (Q : Int → Prop) : (rs0_t ws h).vc (retOk 0 [] (i64 (.o o)) e0M) (rs0_x ws h Q) =
  (Q (0 : Int) ∧ CallKind.normal = CallKind.normal ∧ TodoOk (ren 0 [(0, 0)]) rS_d0 rS_d0 ∧ h = h ∧ (0 : Int) = (0 : Int) ∧ (42 : TypeId) = (42 : Nat) ∧ ws = ws ∧ True) := by kernel_rfl
theorem rs1F (ws : Array Value) (h i o : Int) (Q : Int → Prop) : (rs1_t ws h i).vc (retOk 0 [] (i64 (.o o)) e0M) (rs1_x ws h i Q) =
  ((decide (i < 32) = true → ((0 ≤ i ∧ i < 32) ∧ True) ∧ (IsInt .i64 ws (32 + Int.toNat i * 1) ∧ True) ∧ (((intAt ws (32 + Int.toNat i * 1) == 1) == true) = true → (Array.size ws = 64 ∧ True) ∧ (WB ws ∧ (0 ≤ i ∧ i < 32) ∧ True) ∧ ((nameI (Int.toNat i) (gnW ws (Int.toNat i)) == h) = true → o = i ∧ True) ∧ ((nameI (Int.toNat i) (gnW ws (Int.toNat i)) == h) = false → Q (ari .add .i64 i 1) ∧ CallKind.normal = CallKind.normal ∧ TodoOk (ren 0 [(0, 0)]) rS_d0 rS_d0 ∧ h = h ∧ ari .add .i64 i 1 = ari .add .i64 i 1 ∧ (42 : TypeId) = (42 : TypeId) ∧ ws = ws ∧ True)) ∧ (((intAt ws (32 + Int.toNat i * 1) == 1) == true) = false → Q (ari .add .i64 i 1) ∧ CallKind.normal = CallKind.normal ∧ TodoOk (ren 0 [(0, 0)]) rS_d0 rS_d0 ∧ h = h ∧ ari .add .i64 i 1 = ari .add .i64 i 1 ∧ (42 : TypeId) = (42 : TypeId) ∧ ws = ws ∧ True)) ∧ (decide (i < 32) = false → o = (-1 : Int) ∧ True)) := by kernel_rfl
noncomputable def ri0F_0 : Array Value := #[Value.int .i64 0, Value.int .i64 0, Value.int .i64 0, Value.int .i64 0, Value.int .i64 0, Value.int .i64 0, Value.int .i64 0, Value.int .i64 0, Value.int .i64 0, Value.int .i64 0, Value.int .i64 0, Value.int .i64 0, Value.int .i64 0, Value.int .i64 0, Value.int .i64 0, Value.int .i64 0, Value.int .i64 0, Value.int .i64 0, Value.int .i64 0, Value.int .i64 0, Value.int .i64 0, Value.int .i64 0, Value.int .i64 0, Value.int .i64 0, Value.int .i64 0, Value.int .i64 0, Value.int .i64 0, Value.int .i64 0, Value.int .i64 0, Value.int .i64 0, Value.int .i64 0, Value.int .i64 0, Value.int .i64 0, Value.int .i64 0, Value.int .i64 0, Value.int .i64 0, Value.int .i64 0, Value.int .i64 0, Value.int .i64 0, Value.int .i64 0, Value.int .i64 0, Value.int .i64 0, Value.int .i64 0, Value.int .i64 0, Value.int .i64 0, Value.int .i64 0, Value.int .i64 0, Value.int .i64 0, Value.int .i64 0, Value.int .i64 0, Value.int .i64 0, Value.int .i64 0, Value.int .i64 0, Value.int .i64 0, Value.int .i64 0, Value.int .i64 0, Value.int .i64 0, Value.int .i64 0, Value.int .i64 0, Value.int .i64 0, Value.int .i64 0, Value.int .i64 0, Value.int .i64 0, Value.int .i64 0]
theorem ri0F (ws : Array Value) (o : Array Value) (h : Int) (Q : Int → Array Value → Prop) : (ri0_t ws).vc (retOk 0 [] (.tup [.agg (.op o), .c (.f (.int .i64 (.o h)))]) e0M) (ri0_x ws Q) =
  (Q (0 : Int) (ri0F_0) ∧ CallKind.normal = CallKind.normal ∧ TodoOk (ren 0 [(0, 0), (1, 1)]) rI_d0 rI_d0 ∧ (0 : Int) = (0 : Int) ∧ (42 : TypeId) = (42 : Nat) ∧ ws = ws ∧ (42 : TypeId) = (42 : Nat) ∧ (ri0F_0) = (ri0F_0) ∧ True) := by kernel_rfl
noncomputable def ri1F_0 (ws : Array Value) (i : Int) : Array Value := Array.setIfInBounds ws (32 + Int.toNat i * 1) (Value.int .i64 1)
theorem ri1F (ws : Array Value) (i : Int) (zz : Array Value) (o : Array Value) (h : Int) (Q : Int → Array Value → Prop) : (ri1_t ws i zz).vc (retOk 0 [] (.tup [.agg (.op o), .c (.f (.int .i64 (.o h)))]) e0M) (ri1_x ws i zz Q) =
  ((decide (i < 32) = true → ((0 ≤ i ∧ i < 32) ∧ True) ∧ (IsInt .i64 ws (32 + Int.toNat i * 1) ∧ True) ∧ ((intAt ws (32 + Int.toNat i * 1) == 0) = true → ((0 ≤ i ∧ i < 32) ∧ True) ∧ (32 + Int.toNat i * 1 < Array.size ws ∧ True) ∧ (Array.size (ri1F_0 ws i) = 64 ∧ True) ∧ (Array.size (ri1F_0 ws i) = 64 ∧ True) ∧ (WB (ri1F_0 ws i) ∧ (0 ≤ i ∧ i < 32) ∧ True) ∧ (Array.size (ri1F_0 ws i) = 64 ∧ Array.size (ri1F_0 ws i) = Array.size zz ∧ True) ∧ (Array.size (ri1F_0 ws i) = 64 ∧ True) ∧ o = Array.setIfInBounds ws (32 + Int.toNat i * 1) (Value.int .i64 1) ∧ h = nameI (Int.toNat i) (gnW (ri1F_0 ws i) (Int.toNat i)) ∧ True) ∧ ((intAt ws (32 + Int.toNat i * 1) == 0) = false → Q (ari .add .i64 i 1) zz ∧ CallKind.normal = CallKind.normal ∧ TodoOk (ren 0 [(0, 0), (1, 1)]) rI_d0 rI_d0 ∧ ari .add .i64 i 1 = ari .add .i64 i 1 ∧ (42 : TypeId) = (42 : TypeId) ∧ ws = ws ∧ (42 : TypeId) = (42 : TypeId) ∧ zz = zz ∧ True)) ∧ (decide (i < 32) = false → (Array.size ws = 64 ∧ True) ∧ (Array.size ws = 64 ∧ Array.size ws = Array.size zz ∧ True) ∧ (Array.size ws = 64 ∧ True) ∧ o = ws ∧ h = 0 ∧ True)) := by kernel_rfl
theorem EI0_ok : EnvOk EI0 := EnvOk.with E0_ok _ _ conT5_ok
variable {ws : Array Value}
theorem of_i64 {i : Nat} (hi : i < 32) {g : Int} (hg : 0 ≤ g ∧ g ≤ 8388607) : ari .add .i64 (ari .add .i64 (i : Int) (ari .mul .i64 256 g)) 1 = nameI i g := by
 have e1 : ari .mul .i64 256 g = 256 * g := by rw [ari_mul, i64_in' (by omega) (by omega)]
 have e2 : ari .add .i64 (i : Int) (256 * g) = (i : Int) + 256 * g := by rw [ari_add, i64_in' (by omega) (by omega)]
 rw [e1, e2, ari_add, i64_in' (by omega) (by omega)]
 unfold nameI
theorem rof_con (i : Int) (m : SMem) : Con E0 37 [wbS ws, i64 (.o i)] m (needs [WB ws, 0 ≤ i ∧ i < 32] (.ret (i64 (.o (nameI i.toNat (gnW ws i.toNat)))) m)) := by
 refine Con.pure E0_ok (by kernel_rfl : E0.fn 37 = some Tryd.f37) (by kernel_rfl : Tryd.f37.body = some (Tryd.f37.body.getD .skip)) (by kernel_rfl) (by kernel_rfl) fun hq => ?_
 have hw : WB ws := hq _ (by simp)
 have hi : 0 ≤ i ∧ i < 32 := hq _ (by simp)
 refine (Good.ret [] (run_vc EI0_ok 1000 (of0 ws i (nameI i.toNat (gnW ws i.toNat))) ?_ (fun s m h => h) fun _ _ h => h.elim)).mono fun _ _ h => h.1
 obtain ⟨j, rfl⟩ : ∃ j : Nat, i = (j : Int) := ⟨i.toNat, by omega⟩
 have hj : j < 32 := by omega
 have e := of_i64 hj (hw.rg j hj)
 have g := hw.g j hj
 unfold gnW at e ⊢
 simp only [Int.toNat_natCast, Nat.mul_one, Nat.zero_add, hi, g, e, and_true, true_and]
theorem conI0_ok : ∀ g l m t, conI0 g l m = some t → Con E0 g l m t := by
 unfold conI0 at h
 ·rename_i ws i; cases h
  refine Con.asked fun hq => Con.args (l' := [wbS ws, i64 (.o i.den)]) (fun R vs ha => by
  exact rof_con i.den m A ⟨fun p hp => hq p hp, hs⟩
 ·exact conT5_ok _ _ _ _ h
theorem EIs_ok : EnvOk EIs := EnvOk.with E0_ok _ _ conI0_ok
theorem rS_ok (hw : WB ws) (h : Int) : ∀ (n i : Nat), i + n = 32 → Good Tryd.prog (retOk 0 [] (i64 (.o (slFrom ws h n i))) e0M) 0 (rS_F ws h (i : Int)) (rS_M ws h (i : Int)) := by
  obtain rfl : i = 32 := by omega
  refine past_vc EIs_ok 1000 (rs1F ws h _ _ (fun _ => False)) ?_ (fun _ _ h => h) (fun fs m hb => rs1_go (fun _ h => h.elim) hb)
  have d : decide (((32 : Nat) : Int) < 32) = false := rfl
  simp only [d, decide_true, q6]
  have hi' : i < 32 := by omega
  have y1 : (i : Int) < 32 := by omega
  have d : decide ((i : Int) < 32) = true := decide_eq_true y1
  have g := hw.s i hi'
  have hs := hw.sz
  have ek : intAt ws (32 + i) = knW ws i := rfl
  have eF : slFrom ws h (n + 1) i = if knW ws i = 1 ∧ nameI i (gnW ws i) = h then (i : Int) else slFrom ws h n (i + 1) := rfl
  by_cases c : knW ws i = 1 ∧ nameI i (gnW ws i) = h
  ·rw [eF, if_pos c]
   refine past_vc EIs_ok 1000 (rs1F ws h (i : Int) (i : Int) (fun _ => False)) ?_ (fun _ _ h => h) (fun fs m hb => rs1_go (fun _ h => h.elim) hb)
   have c1 : (knW ws i == 1) = true := beq_iff_eq.2 c.1
   have c2 : (nameI i (gnW ws i) == h) = true := beq_iff_eq.2 c.2
   simp only [Int.toNat_natCast, Nat.mul_one, Nat.zero_add, d, y0, y1, g, hs, hw, ek, c1, c2, beqT, beqF, decide_true, q6]
  ·rw [eF, if_neg c]
   refine past_vc EIs_ok 1000 (rs1F ws h (i : Int) (slFrom ws h n (i + 1)) (fun i' => i' = ((i + 1 : Nat) : Int))) ?_ (fun _ _ h => h) (fun fs m hb => rs1_go (fun i' e => by rw [e]; exact ih (i + 1) (by omega)) hb)
   by_cases k : knW ws i = 1
   ·have c1 : (knW ws i == 1) = true := beq_iff_eq.2 k
    have c2 : (nameI i (gnW ws i) == h) = false := beq_eq_false_iff_ne.2 fun e => c ⟨k, e⟩
    simp only [Int.toNat_natCast, Nat.mul_one, Nat.zero_add, d, ei, y0, y1, g, hs, hw, ek, c1, c2, beqT, beqF, decide_true, rS_d0_ok, q6]
   ·have c1 : (knW ws i == 1) = false := beq_eq_false_iff_ne.2 k
    simp only [Int.toNat_natCast, Nat.mul_one, Nat.zero_add, d, ei, y0, y1, g, hs, hw, ek, c1, beqT, beqF, decide_true, rS_d0_ok, q6]
theorem rslot_con (h : Int) (m : SMem) : Con E0 57 [wbS ws, i64 (.o h)] m (needs [WB ws] (.ret (i64 (.o (slW ws h))) m)) := by
 refine Con.pure E0_ok (by kernel_rfl : E0.fn 57 = some Tryd.f57) (by kernel_rfl : Tryd.f57.body = some (Tryd.f57.body.getD .skip)) (by kernel_rfl) (by kernel_rfl) fun hq => ?_
 have hw : WB ws := hq _ (by simp)
 refine (Good.ret [] (run_vc EIs_ok 1000 (rs0F ws h (slW ws h) (fun i => i = ((0 : Nat) : Int))) ?_ (fun s m h => h) fun fs m hb => rs0_go (fun i e => by rw [e]; exact rS_ok hw h 32 0 rfl) hb)).mono fun _ _ h => h.1
 simp only [and_true, true_and, rS_d0_ok]
def frW (ws : Array Value) : Nat → Nat → Option Nat
 | 0, _ => none
 | k + 1, i => if knW ws i = 0 then some i else frW ws k (i + 1)
def isO (ws : Array Value) : Option Nat → Array Value
 | some i => ws.setIfInBounds (32 + i) (.int .i64 1)
 | none => ws
def iiO (ws : Array Value) : Option Nat → Int
 | some i => nameI i (gnW ws i)
 | none => 0
def isW (ws : Array Value) : Array Value := isO ws (frW ws 32 0)
def iiW (ws : Array Value) : Int := iiO ws (frW ws 32 0)
theorem setI {i v : Nat} {x : Int} (hi : i < ws.size) {j : Nat} : (ws.setIfInBounds i (.int .i64 x))[j]? = if i = j then some (.int .i64 x) else ws[j]? := by
 rw [Array.getElem?_setIfInBounds]
 ·first | rfl | rw [if_pos hi]
theorem set_kn {i : Nat} {x : Int} (hw : WB ws) (hi : i < 32) (hx : 0 ≤ x ∧ x ≤ 2) : WB (ws.setIfInBounds (32 + i) (.int .i64 x)) ∧ (∀ j, j < 32 → gnW (ws.setIfInBounds (32 + i) (.int .i64 x)) j = gnW ws j) ∧ ∀ j, j < 32 → knW (ws.setIfInBounds (32 + i) (.int .i64 x)) j = if j = i then x else knW ws j := by
 have hz := hw.sz
 have a : ∀ j, j < 32 → (ws.setIfInBounds (32 + i) (.int .i64 x))[j]? = ws[j]? := fun j hj => by
  rw [setI (v := 0) (by omega), if_neg (by omega)]
 have b : ∀ j, j < 32 → (ws.setIfInBounds (32 + i) (.int .i64 x))[32 + j]? = if j = i then some (.int .i64 x) else ws[32 + j]? := fun j hj => by
  rw [setI (v := 0) (by omega)]
  by_cases e : j = i
  ·rw [if_pos (by omega), if_pos e]
  ·rw [if_neg (by omega), if_neg e]
 have g : ∀ j, j < 32 → gnW (ws.setIfInBounds (32 + i) (.int .i64 x)) j = gnW ws j := fun j hj => by unfold gnW intAt; rw [a j hj]
 have k : ∀ j, j < 32 → knW (ws.setIfInBounds (32 + i) (.int .i64 x)) j = if j = i then x else knW ws j := fun j hj => by
  unfold knW
  by_cases e : j = i
  ·rw [if_pos e]; exact intAt_of (by rw [b j hj, if_pos e])
  ·rw [if_neg e]; unfold intAt; rw [b j hj, if_neg e]
 refine ⟨⟨by rw [Array.size_setIfInBounds]; exact hz, fun j hj => ?_, fun j hj => ?_, fun j hj => ?_, fun j hj => ?_⟩, g, k⟩
 ·have := hw.g j hj
  have e := g j hj
  unfold gnW at e
  unfold IsInt at *
  rw [e, a j hj]; exact this
 ·by_cases e : j = i
  ·exact isI_of (by rw [b j hj, if_pos e])
  ·have := hw.s j hj
   have e2 := k j hj
   rw [if_neg e] at e2
   unfold knW at e2
   unfold IsInt at *
   rw [e2, b j hj, if_neg e]; exact this
 ·rw [g j hj]; exact hw.rg j hj
 ·rw [k j hj]
  ·exact hx
  ·exact hw.rs j hj
theorem rI_ok (hw : WB ws) : ∀ (n i : Nat) {zz : Array Value}, zz.size = 64 → i + n = 32 → Good Tryd.prog (retOk 0 [] (.tup [.agg (.op (isO ws (frW ws n i))), .c (.f (.int .i64 (.o (iiO ws (frW ws n i)))))]) e0M) 0 (rI_F ws (i : Int) zz) (rI_M ws (i : Int) zz) := by
  intro i zz hz hi
  obtain rfl : i = 32 := by omega
  refine past_vc EIs_ok 1000 (ri1F ws _ zz _ _ (fun _ _ => False)) ?_ (fun _ _ h => h) (fun fs m hb => ri1_go (fun _ _ h => h.elim) hb)
  unfold ri1F_0
  have d : decide (((32 : Nat) : Int) < 32) = false := rfl
  have hs := hw.sz
  simp only [d, hs, hz, decide_true, q6]
  intro i zz hz hi
  have hi' : i < 32 := by omega
  have y1 : (i : Int) < 32 := by omega
  have d : decide ((i : Int) < 32) = true := decide_eq_true y1
  have g := hw.s i hi'
  have hs := hw.sz
  have ek : intAt ws (32 + i) = knW ws i := rfl
  have eF : frW ws (n + 1) i = if knW ws i = 0 then some i else frW ws n (i + 1) := rfl
  by_cases c : knW ws i = 0
  ·rw [eF, if_pos c]
   refine past_vc EIs_ok 1000 (ri1F ws (i : Int) zz _ _ (fun _ _ => False)) ?_ (fun _ _ h => h) (fun fs m hb => ri1_go (fun _ _ h => h.elim) hb)
   unfold ri1F_0
   have c1 : (knW ws i == 0) = true := beq_iff_eq.2 c
   obtain ⟨s1, s2, _⟩ := set_kn (x := 1) hw hi' ⟨by decide, by decide⟩
   have s3 := s1.sz
   have y3 : 32 + i < 64 := by omega
   have s4 := s2 i hi'
   simp only [Int.toNat_natCast, Nat.mul_one, Nat.zero_add, d, y0, y1, y3, g, hs, hz, hw, ek, c1, s1, s3, s4, decide_true, q6]
  ·rw [eF, if_neg c]
   refine past_vc EIs_ok 1000 (ri1F ws (i : Int) zz _ _ (fun i' z => i' = ((i + 1 : Nat) : Int) ∧ z = zz)) ?_ (fun _ _ h => h) (fun fs m hb => ri1_go (fun i' z ⟨e1, e2⟩ => by rw [e1, e2]; exact ih (i + 1) hz (by omega)) hb)
   unfold ri1F_0
   have c1 : (knW ws i == 0) = false := beq_eq_false_iff_ne.2 c
   simp only [Int.toNat_natCast, Nat.mul_one, Nat.zero_add, d, ei, y0, y1, g, hs, hz, hw, ek, c1, decide_true, rI_d0_ok, q6]
theorem rissue_con (m : SMem) : Con E0 71 [wbS ws] m (needs [WB ws] (.ret (.tup [.agg (.op (isW ws)), .c (.f (.int .i64 (.o (iiW ws))))]) m)) := by
 refine Con.pure E0_ok (by kernel_rfl : E0.fn 71 = some Tryd.f71) (by kernel_rfl : Tryd.f71.body = some (Tryd.f71.body.getD .skip)) (by kernel_rfl) (by kernel_rfl) fun hq => ?_
 have hw : WB ws := hq _ (by simp)
 refine (Good.ret [] (run_vc EIs_ok 1000 (ri0F ws (isW ws) (iiW ws) (fun i z => i = ((0 : Nat) : Int) ∧ z.size = 64)) ?_ (fun s m h => h) fun fs m hb => ri0_go (fun i z ⟨e, e2⟩ => by rw [e]; exact rI_ok hw 32 0 e2 rfl) hb)).mono fun _ _ h => h.1
 unfold ri0F_0
 simp only [and_true, true_and, rI_d0_ok]
noncomputable def conI1 (g : FuncId) (l : List SV) (m : SMem) : Option Tree := match g, l with
 | 57, [.s (.agg (.op ws)), .s (.c (.f (.int .i64 h)))] => some (.need [WB ws] (.ret (i64 (.o (slW ws h.den))) m))
 | 71, [.s (.agg (.op ws))] => some (.need [WB ws] (.ret (.tup [.agg (.op (isW ws)), .c (.f (.int .i64 (.o (iiW ws))))]) m))
 | g, l => conI0 g l m
noncomputable def EI1 : Env := ⟨Tryd.prog, fnOf, conI1, haltAt []⟩
noncomputable def wtS (ws : Array Value) : SV := .s (.agg (.op ws))
noncomputable def wbA (o : Array Value) (b : Bool) (s : SV) (m : SMem) : Prop := retOk 0 [] (.tup [.agg (.op o), .c (.f (.bool (.o b)))]) e0M s m
noncomputable def weA (o : Array Value) (e : Int) (s : SV) (m : SMem) : Prop := retOk 0 [] (.tup [.agg (.op o), .c (.f (.int .i64 (.o e)))]) e0M s m
noncomputable def whA (o : Array Value) (h e : Int) (s : SV) (m : SMem) : Prop := retOk 0 [] (.tup [.agg (.op o), .c (.f (.int .i64 (.o h))), .c (.f (.int .i64 (.o e)))]) e0M s m
noncomputable def vo0_0 (ws : Array Value) (h : Int) : Array Value := Array.setIfInBounds ws (32 + Int.toNat (slW ws h) * 1) (Value.int .i64 0)
noncomputable def vo0_1 (ws : Array Value) (h : Int) : Array Value := Array.setIfInBounds (vo0_0 ws h) (0 + Int.toNat (slW ws h) * 1) (Value.int .i64 (ari .add .i64 (intAt (vo0_0 ws h) (0 + Int.toNat (slW ws h) * 1)) (1 : Int)))
noncomputable def vo0_2 (ws : Array Value) (h : Int) : Array Value := Array.setIfInBounds (vo0_0 ws h) (32 + Int.toNat (slW ws h) * 1) (Value.int .i64 2)
theorem vo0 (ws : Array Value) (h : Int) (o : Array Value) (b : Bool) : (run EI1 1000 0 [callFr 70 Tryd.f70.ntmps [wbS ws, i64 (.o h)] (Tryd.f70.body.getD .skip)] e0M).vc (wbA o b) (fun _ _ => False) =
  ((Array.size ws = 64 ∧ True) ∧ (WB ws ∧ True) ∧ (decide (slW ws h < 0) = true → (Array.size ws = 64 ∧ True) ∧ (Array.size ws = 64 ∧ Array.size ws = 64 ∧ True) ∧ (Array.size ws = 64 ∧ True) ∧ o = ws ∧ b = false ∧ True) ∧ (decide (slW ws h < 0) = false → ((0 ≤ slW ws h ∧ slW ws h < 32) ∧ True) ∧ (32 + Int.toNat (slW ws h) * 1 < Array.size ws ∧ True) ∧ ((0 ≤ slW ws h ∧ slW ws h < 32) ∧ True) ∧ (IsInt .i64 (vo0_0 ws h) (0 + Int.toNat (slW ws h) * 1) ∧ True) ∧ ((intAt (vo0_0 ws h) (0 + Int.toNat (slW ws h) * 1) == 8388607) = true → ((0 ≤ slW ws h ∧ slW ws h < 32) ∧ True) ∧ (32 + Int.toNat (slW ws h) * 1 < Array.size (vo0_0 ws h) ∧ True) ∧ (Array.size (vo0_2 ws h) = 64 ∧ True) ∧ (Array.size (vo0_2 ws h) = 64 ∧ Array.size (vo0_2 ws h) = 64 ∧ True) ∧ (Array.size (vo0_2 ws h) = 64 ∧ True) ∧ o = Array.setIfInBounds (vo0_0 ws h) (32 + Int.toNat (slW ws h) * 1) (Value.int .i64 2) ∧ b = true ∧ True) ∧ ((intAt (vo0_0 ws h) (0 + Int.toNat (slW ws h) * 1) == 8388607) = false → ((0 ≤ slW ws h ∧ slW ws h < 32) ∧ True) ∧ (IsInt .i64 (vo0_0 ws h) (0 + Int.toNat (slW ws h) * 1) ∧ True) ∧ ((0 ≤ slW ws h ∧ slW ws h < 32) ∧ True) ∧ (0 + Int.toNat (slW ws h) * 1 < Array.size (vo0_0 ws h) ∧ True) ∧ (Array.size (vo0_1 ws h) = 64 ∧ True) ∧ (Array.size (vo0_1 ws h) = 64 ∧ Array.size (vo0_1 ws h) = 64 ∧ True) ∧ (Array.size (vo0_1 ws h) = 64 ∧ True) ∧ o = Array.setIfInBounds (vo0_0 ws h) (0 + Int.toNat (slW ws h) * 1) (Value.int .i64 (ari .add .i64 (intAt (vo0_0 ws h) (0 + Int.toNat (slW ws h) * 1)) (1 : Int))) ∧ b = true ∧ True))) := by kernel_rfl
theorem rg0 (ws : Array Value) (h : Int) (b : Bool) : (run EI1 1000 0 [callFr 39 Tryd.f39.ntmps [wtS ws, i64 (.o h)] (Tryd.f39.body.getD .skip)] e0M).vc (retOk 0 [] (sB (.o b)) e0M) (fun _ _ => False) =
  ((64 ≤ Array.size ws ∧ True) ∧ (WB (Array.extract ws 0 64) ∧ True) ∧ b = decide (slW (Array.extract ws 0 64) h ≥ 0) ∧ True) := by kernel_rfl
theorem rt0 (ws : Array Value) (h : Int) (o : Array Value) (e : Int) : (run EI1 1000 0 [callFr 32 Tryd.f32.ntmps [wtS ws, i64 (.o h)] (Tryd.f32.body.getD .skip)] e0M).vc (weA o e) (fun _ _ => False) =
  ((64 ≤ Array.size ws ∧ True) ∧ (WB (Array.extract ws 0 64) ∧ True) ∧ (decide (slW (Array.extract ws 0 64) h < 0) = true → o = #[Value.int .i64 0, Value.int .i64 0, Value.slice none 0 0, Value.int .i64 0, Value.int .i64 0, Value.int .i64 0, Value.int .i64 0, Value.int .i64 0, Value.int .i64 0, Value.int .i64 0, Value.int .i64 0, Value.int .i64 0] ∧ e = 4 ∧ True) ∧ (decide (slW (Array.extract ws 0 64) h < 0) = false → ((0 ≤ slW (Array.extract ws 0 64) h ∧ slW (Array.extract ws 0 64) h < 32) ∧ True) ∧ (IsInt .i64 ws (64 + Int.toNat (slW (Array.extract ws 0 64) h) * 12) ∧ IsInt .i64 ws (64 + Int.toNat (slW (Array.extract ws 0 64) h) * 12 + 1) ∧ ws[64 + Int.toNat (slW (Array.extract ws 0 64) h) * 12 + 2]? = some (Value.slice none 0 0) ∧ IsInt .i64 ws (64 + Int.toNat (slW (Array.extract ws 0 64) h) * 12 + 3) ∧ IsInt .i64 ws (64 + Int.toNat (slW (Array.extract ws 0 64) h) * 12 + 4) ∧ IsInt .i64 ws (64 + Int.toNat (slW (Array.extract ws 0 64) h) * 12 + 5) ∧ IsInt .i64 ws (64 + Int.toNat (slW (Array.extract ws 0 64) h) * 12 + 6) ∧ IsInt .i64 ws (64 + Int.toNat (slW (Array.extract ws 0 64) h) * 12 + 7) ∧ IsInt .i64 ws (64 + Int.toNat (slW (Array.extract ws 0 64) h) * 12 + 8) ∧ IsInt .i64 ws (64 + Int.toNat (slW (Array.extract ws 0 64) h) * 12 + 9) ∧ IsInt .i64 ws (64 + Int.toNat (slW (Array.extract ws 0 64) h) * 12 + 10) ∧ IsInt .i64 ws (64 + Int.toNat (slW (Array.extract ws 0 64) h) * 12 + 11) ∧ True) ∧ o = #[Value.int .i64 (intAt ws (64 + Int.toNat (slW (Array.extract ws 0 64) h) * 12)), Value.int .i64 (intAt ws (64 + Int.toNat (slW (Array.extract ws 0 64) h) * 12 + 1)), Value.slice none 0 0, Value.int .i64 (intAt ws (64 + Int.toNat (slW (Array.extract ws 0 64) h) * 12 + 3)), Value.int .i64 (intAt ws (64 + Int.toNat (slW (Array.extract ws 0 64) h) * 12 + 4)), Value.int .i64 (intAt ws (64 + Int.toNat (slW (Array.extract ws 0 64) h) * 12 + 5)), Value.int .i64 (intAt ws (64 + Int.toNat (slW (Array.extract ws 0 64) h) * 12 + 6)), Value.int .i64 (intAt ws (64 + Int.toNat (slW (Array.extract ws 0 64) h) * 12 + 7)), Value.int .i64 (intAt ws (64 + Int.toNat (slW (Array.extract ws 0 64) h) * 12 + 8)), Value.int .i64 (intAt ws (64 + Int.toNat (slW (Array.extract ws 0 64) h) * 12 + 9)), Value.int .i64 (intAt ws (64 + Int.toNat (slW (Array.extract ws 0 64) h) * 12 + 10)), Value.int .i64 (intAt ws (64 + Int.toNat (slW (Array.extract ws 0 64) h) * 12 + 11))] ∧ e = 0 ∧ True)) := by kernel_rfl
theorem up0 (ws : Array Value) (h : Int) (o : Int) : (run EI1 1000 0 [callFr 40 Tryd.f40.ntmps [wtS ws, i64 (.o h)] (Tryd.f40.body.getD .skip)] e0M).vc (retOk 0 [] (i64 (.o o)) e0M) (fun _ _ => False) =
  ((Array.size ws = 448 ∧ True) ∧ (64 ≤ Array.size ws ∧ True) ∧ (WB (Array.extract ws 0 64) ∧ True) ∧ (decide (slW (Array.extract ws 0 64) h < 0) = true → o = 0 ∧ True) ∧ (decide (slW (Array.extract ws 0 64) h < 0) = false → ((0 ≤ slW (Array.extract ws 0 64) h ∧ slW (Array.extract ws 0 64) h < 32) ∧ True) ∧ (IsInt .i64 ws (64 + Int.toNat (slW (Array.extract ws 0 64) h) * 12) ∧ IsInt .i64 ws (64 + Int.toNat (slW (Array.extract ws 0 64) h) * 12 + 1) ∧ ws[64 + Int.toNat (slW (Array.extract ws 0 64) h) * 12 + 2]? = some (Value.slice none 0 0) ∧ IsInt .i64 ws (64 + Int.toNat (slW (Array.extract ws 0 64) h) * 12 + 3) ∧ IsInt .i64 ws (64 + Int.toNat (slW (Array.extract ws 0 64) h) * 12 + 4) ∧ IsInt .i64 ws (64 + Int.toNat (slW (Array.extract ws 0 64) h) * 12 + 5) ∧ IsInt .i64 ws (64 + Int.toNat (slW (Array.extract ws 0 64) h) * 12 + 6) ∧ IsInt .i64 ws (64 + Int.toNat (slW (Array.extract ws 0 64) h) * 12 + 7) ∧ IsInt .i64 ws (64 + Int.toNat (slW (Array.extract ws 0 64) h) * 12 + 8) ∧ IsInt .i64 ws (64 + Int.toNat (slW (Array.extract ws 0 64) h) * 12 + 9) ∧ IsInt .i64 ws (64 + Int.toNat (slW (Array.extract ws 0 64) h) * 12 + 10) ∧ IsInt .i64 ws (64 + Int.toNat (slW (Array.extract ws 0 64) h) * 12 + 11) ∧ True) ∧ o = intAt ws (64 + Int.toNat (slW (Array.extract ws 0 64) h) * 12) ∧ True)) := by kernel_rfl
noncomputable def nw0_0 (ws : Array Value) (u : Int) (q : Int) (o : Array Value) (h : Int) (e : Int) : Prop := (decide (q < 0) == false) = true → (decide (q > 64) = true → (Array.size ws = 448 ∧ True) ∧ (Array.size ws = 448 ∧ Array.size ws = 448 ∧ True) ∧ (Array.size ws = 448 ∧ True) ∧ o = ws ∧ h = 0 ∧ e = 2 ∧ True) ∧ (decide (q > 64) = false → (64 ≤ Array.size ws ∧ True) ∧ (WB (Array.extract ws 0 64) ∧ True) ∧ (Array.size (isW (Array.extract ws 0 64)) = 64 ∧ Array.size (isW (Array.extract ws 0 64)) = 64 ∧ True) ∧ ((iiW (Array.extract ws 0 64) == 0) = true → (Array.size ws = 448 ∧ True) ∧ (Array.size ws = 448 ∧ Array.size ws = 448 ∧ True) ∧ (Array.size ws = 448 ∧ True) ∧ o = ws ∧ h = 0 ∧ e = 7 ∧ True) ∧ ((iiW (Array.extract ws 0 64) == 0) = false → (Array.size (isW (Array.extract ws 0 64)) = 64 ∧ True) ∧ (Array.size (isW (Array.extract ws 0 64)) = 64 ∧ 0 + Array.size (isW (Array.extract ws 0 64)) ≤ Array.size ws ∧ True) ∧ (Array.size (isW (Array.extract ws 0 64)) = 64 ∧ True) ∧ (WB (isW (Array.extract ws 0 64)) ∧ True) ∧ ((0 ≤ slW (isW (Array.extract ws 0 64)) (iiW (Array.extract ws 0 64)) ∧ slW (isW (Array.extract ws 0 64)) (iiW (Array.extract ws 0 64)) < 32) ∧ True) ∧ (64 + Int.toNat (slW (isW (Array.extract ws 0 64)) (iiW (Array.extract ws 0 64))) * 12 + List.length [Value.int .i64 u, Value.int .i64 q, Value.slice none 0 0, Value.int .i64 0, Value.int .i64 0, Value.int .i64 0, Value.int .i64 0, Value.int .i64 0, Value.int .i64 0, Value.int .i64 0, Value.int .i64 0, Value.int .i64 0] ≤ Array.size (putAt ws 0 (Array.toList (isW (Array.extract ws 0 64)))) ∧ True) ∧ (Array.size (putAt (putAt ws 0 (Array.toList (isW (Array.extract ws 0 64)))) (64 + Int.toNat (slW (isW (Array.extract ws 0 64)) (iiW (Array.extract ws 0 64))) * 12) [Value.int .i64 u, Value.int .i64 q, Value.slice none 0 0, Value.int .i64 0, Value.int .i64 0, Value.int .i64 0, Value.int .i64 0, Value.int .i64 0, Value.int .i64 0, Value.int .i64 0, Value.int .i64 0, Value.int .i64 0]) = 448 ∧ True) ∧ (Array.size (putAt (putAt ws 0 (Array.toList (isW (Array.extract ws 0 64)))) (64 + Int.toNat (slW (isW (Array.extract ws 0 64)) (iiW (Array.extract ws 0 64))) * 12) [Value.int .i64 u, Value.int .i64 q, Value.slice none 0 0, Value.int .i64 0, Value.int .i64 0, Value.int .i64 0, Value.int .i64 0, Value.int .i64 0, Value.int .i64 0, Value.int .i64 0, Value.int .i64 0, Value.int .i64 0]) = 448 ∧ Array.size (putAt (putAt ws 0 (Array.toList (isW (Array.extract ws 0 64)))) (64 + Int.toNat (slW (isW (Array.extract ws 0 64)) (iiW (Array.extract ws 0 64))) * 12) [Value.int .i64 u, Value.int .i64 q, Value.slice none 0 0, Value.int .i64 0, Value.int .i64 0, Value.int .i64 0, Value.int .i64 0, Value.int .i64 0, Value.int .i64 0, Value.int .i64 0, Value.int .i64 0, Value.int .i64 0]) = 448 ∧ True) ∧ (Array.size (putAt (putAt ws 0 (Array.toList (isW (Array.extract ws 0 64)))) (64 + Int.toNat (slW (isW (Array.extract ws 0 64)) (iiW (Array.extract ws 0 64))) * 12) [Value.int .i64 u, Value.int .i64 q, Value.slice none 0 0, Value.int .i64 0, Value.int .i64 0, Value.int .i64 0, Value.int .i64 0, Value.int .i64 0, Value.int .i64 0, Value.int .i64 0, Value.int .i64 0, Value.int .i64 0]) = 448 ∧ True) ∧ o = putAt (putAt ws 0 (Array.toList (isW (Array.extract ws 0 64)))) (64 + Int.toNat (slW (isW (Array.extract ws 0 64)) (iiW (Array.extract ws 0 64))) * 12) [Value.int .i64 u, Value.int .i64 q, Value.slice none 0 0, Value.int .i64 0, Value.int .i64 0, Value.int .i64 0, Value.int .i64 0, Value.int .i64 0, Value.int .i64 0, Value.int .i64 0, Value.int .i64 0, Value.int .i64 0] ∧ h = iiW (Array.extract ws 0 64) ∧ e = 0 ∧ True))
theorem nw0 (ws : Array Value) (u q : Int) (o : Array Value) (h e : Int) : (run EI1 1000 0 [callFr 60 Tryd.f60.ntmps [wtS ws, i64 (.o u), i64 (.o q)] (Tryd.f60.body.getD .skip)] e0M).vc (whA o h e) (fun _ _ => False) =
  ((((u != 0) == true) = true → (Array.size ws = 448 ∧ True) ∧ (64 ≤ Array.size ws ∧ True) ∧ (WB (Array.extract ws 0 64) ∧ True) ∧ ((!decide (slW (Array.extract ws 0 64) u ≥ 0)) = true → (Array.size ws = 448 ∧ True) ∧ (Array.size ws = 448 ∧ Array.size ws = 448 ∧ True) ∧ (Array.size ws = 448 ∧ True) ∧ o = ws ∧ h = 0 ∧ e = 4 ∧ True) ∧ ((!decide (slW (Array.extract ws 0 64) u ≥ 0)) = false → (nw0_0 ws u q o h e) ∧ ((decide (q < 0) == false) = false → (Array.size ws = 448 ∧ True) ∧ (Array.size ws = 448 ∧ Array.size ws = 448 ∧ True) ∧ (Array.size ws = 448 ∧ True) ∧ o = ws ∧ h = 0 ∧ e = 2 ∧ True))) ∧ (((u != 0) == true) = false → (nw0_0 ws u q o h e) ∧ ((decide (q < 0) == false) = false → (Array.size ws = 448 ∧ True) ∧ (Array.size ws = 448 ∧ Array.size ws = 448 ∧ True) ∧ (Array.size ws = 448 ∧ True) ∧ o = ws ∧ h = 0 ∧ e = 2 ∧ True))) := by kernel_rfl
noncomputable def se0_0 (ws : Array Value) (h : Int) (rr : Array Value) : List Value := [Value.int .i64 (intAt (Array.setIfInBounds rr 0 (Value.int .i64 (intAt ws (64 + Int.toNat (slW (Array.extract ws 0 64) h) * 12)))) (0 : Nat)), Value.int .i64 (intAt (Array.setIfInBounds rr 0 (Value.int .i64 (intAt ws (64 + Int.toNat (slW (Array.extract ws 0 64) h) * 12)))) (1 : Nat)), Value.slice none 0 0, Value.int .i64 (intAt (Array.setIfInBounds rr 0 (Value.int .i64 (intAt ws (64 + Int.toNat (slW (Array.extract ws 0 64) h) * 12)))) (3 : Nat)), Value.int .i64 (intAt (Array.setIfInBounds rr 0 (Value.int .i64 (intAt ws (64 + Int.toNat (slW (Array.extract ws 0 64) h) * 12)))) (4 : Nat)), Value.int .i64 (intAt (Array.setIfInBounds rr 0 (Value.int .i64 (intAt ws (64 + Int.toNat (slW (Array.extract ws 0 64) h) * 12)))) (5 : Nat)), Value.int .i64 (intAt (Array.setIfInBounds rr 0 (Value.int .i64 (intAt ws (64 + Int.toNat (slW (Array.extract ws 0 64) h) * 12)))) (6 : Nat)), Value.int .i64 (intAt (Array.setIfInBounds rr 0 (Value.int .i64 (intAt ws (64 + Int.toNat (slW (Array.extract ws 0 64) h) * 12)))) (7 : Nat)), Value.int .i64 (intAt (Array.setIfInBounds rr 0 (Value.int .i64 (intAt ws (64 + Int.toNat (slW (Array.extract ws 0 64) h) * 12)))) (8 : Nat)), Value.int .i64 (intAt (Array.setIfInBounds rr 0 (Value.int .i64 (intAt ws (64 + Int.toNat (slW (Array.extract ws 0 64) h) * 12)))) (9 : Nat)), Value.int .i64 (intAt (Array.setIfInBounds rr 0 (Value.int .i64 (intAt ws (64 + Int.toNat (slW (Array.extract ws 0 64) h) * 12)))) (10 : Nat)), Value.int .i64 (intAt (Array.setIfInBounds rr 0 (Value.int .i64 (intAt ws (64 + Int.toNat (slW (Array.extract ws 0 64) h) * 12)))) (11 : Nat))]
noncomputable def se0_1 (ws : Array Value) (h : Int) (rr : Array Value) : Array Value := Array.setIfInBounds rr 0 (Value.int .i64 (intAt ws (64 + Int.toNat (slW (Array.extract ws 0 64) h) * 12)))
noncomputable def se0_2 (ws : Array Value) (h : Int) (rr : Array Value) : Array Value := putAt ws (64 + Int.toNat (slW (Array.extract ws 0 64) h) * 12) (se0_0 ws h rr)
theorem se0 (ws : Array Value) (h : Int) (rr : Array Value) (o : Array Value) (e : Int) : (run EI1 1000 0 [callFr 33 Tryd.f33.ntmps [wtS ws, i64 (.o h), wtS rr] (Tryd.f33.body.getD .skip)] e0M).vc (weA o e) (fun _ _ => False) =
  ((64 ≤ Array.size ws ∧ True) ∧ (WB (Array.extract ws 0 64) ∧ True) ∧ (decide (slW (Array.extract ws 0 64) h < 0) = true → (Array.size ws = 448 ∧ True) ∧ (Array.size ws = 448 ∧ Array.size ws = 448 ∧ True) ∧ (Array.size ws = 448 ∧ True) ∧ o = ws ∧ e = 4 ∧ True) ∧ (decide (slW (Array.extract ws 0 64) h < 0) = false → (IsInt .i64 rr 1 ∧ True) ∧ ((decide (intAt rr 1 < 0) == false) = true → (IsInt .i64 rr 1 ∧ True) ∧ ((decide (intAt rr 1 > 64) == false) = true → (rr[(2 : Nat)]? = some (Value.slice none 0 0) ∧ IsInt .i64 rr 3 ∧ True) ∧ ((decide (intAt rr 3 ≥ 0) == true) = true → ((!decide (intAt rr 3 ≤ 0)) = true → (Array.size ws = 448 ∧ True) ∧ (Array.size ws = 448 ∧ Array.size ws = 448 ∧ True) ∧ (Array.size ws = 448 ∧ True) ∧ o = ws ∧ e = 2 ∧ True) ∧ ((!decide (intAt rr 3 ≤ 0)) = false → ((0 ≤ slW (Array.extract ws 0 64) h ∧ slW (Array.extract ws 0 64) h < 32) ∧ True) ∧ (IsInt .i64 ws (64 + Int.toNat (slW (Array.extract ws 0 64) h) * 12) ∧ True) ∧ (0 < Array.size rr ∧ True) ∧ (IsInt .i64 (se0_1 ws h rr) 0 ∧ IsInt .i64 (se0_1 ws h rr) 1 ∧ (se0_1 ws h rr)[(2 : Nat)]? = some (Value.slice none 0 0) ∧ IsInt .i64 (se0_1 ws h rr) 3 ∧ IsInt .i64 (se0_1 ws h rr) 4 ∧ IsInt .i64 (se0_1 ws h rr) 5 ∧ IsInt .i64 (se0_1 ws h rr) 6 ∧ IsInt .i64 (se0_1 ws h rr) 7 ∧ IsInt .i64 (se0_1 ws h rr) 8 ∧ IsInt .i64 (se0_1 ws h rr) 9 ∧ IsInt .i64 (se0_1 ws h rr) 10 ∧ IsInt .i64 (se0_1 ws h rr) 11 ∧ True) ∧ ((0 ≤ slW (Array.extract ws 0 64) h ∧ slW (Array.extract ws 0 64) h < 32) ∧ True) ∧ (64 + Int.toNat (slW (Array.extract ws 0 64) h) * 12 + List.length (se0_0 ws h rr) ≤ Array.size ws ∧ True) ∧ (Array.size (se0_2 ws h rr) = 448 ∧ True) ∧ (Array.size (se0_2 ws h rr) = 448 ∧ Array.size (se0_2 ws h rr) = 448 ∧ True) ∧ (Array.size (se0_2 ws h rr) = 448 ∧ True) ∧ o = putAt ws (64 + Int.toNat (slW (Array.extract ws 0 64) h) * 12) (se0_0 ws h rr) ∧ e = 0 ∧ True)) ∧ ((decide (intAt rr 3 ≥ 0) == true) = false → (Array.size ws = 448 ∧ True) ∧ (Array.size ws = 448 ∧ Array.size ws = 448 ∧ True) ∧ (Array.size ws = 448 ∧ True) ∧ o = ws ∧ e = 2 ∧ True)) ∧ ((decide (intAt rr 1 > 64) == false) = false → (Array.size ws = 448 ∧ True) ∧ (Array.size ws = 448 ∧ Array.size ws = 448 ∧ True) ∧ (Array.size ws = 448 ∧ True) ∧ o = ws ∧ e = 2 ∧ True)) ∧ ((decide (intAt rr 1 < 0) == false) = false → (Array.size ws = 448 ∧ True) ∧ (Array.size ws = 448 ∧ Array.size ws = 448 ∧ True) ∧ (Array.size ws = 448 ∧ True) ∧ o = ws ∧ e = 2 ∧ True))) := by kernel_rfl
def rwA (u q : Int) (c : Nat → Int) : Array Value := #[.int .i64 u, .int .i64 q, .slice none 0 0, .int .i64 0, .int .i64 (c 0), .int .i64 (c 1), .int .i64 (c 2), .int .i64 (c 3), .int .i64 (c 4), .int .i64 (c 5), .int .i64 (c 6), .int .i64 (c 7)]
def nmF (ts : Array Value) (i : Nat) : Int := nameI i (ageAt (bkB ts) i)
def rwF (ts : Array Value) (h : Int) : Array Value := rwA (upF ts h) (quF ts h) (ceF ts h)
structure SW (ts ws : Array Value) : Prop where
 sz : ws.size = 448
 g : ∀ i, i < 32 → ws[i]? = some (.int .i64 (ageAt (bkB ts) i))
 s : ∀ i, i < 32 → ws[32 + i]? = some (.int .i64 (kindAt (bkB ts) i))
 r : ∀ i, i < 32 → kindAt (bkB ts) i = 1 → ∀ j, j < 12 → ws[64 + i * 12 + j]? = (rwF ts (nmF ts i))[j]?
 z : ∀ i, i < 32 → kindAt (bkB ts) i ≠ 1 → ∀ j, j < 12 → ws[64 + i * 12 + j]? = (rwA 0 0 fun _ => 0)[j]?
variable {ts ws : Array Value}
theorem SW.bk (w : SW ts ws) {i : Nat} (hi : i < 64) : (ws.extract 0 64)[i]? = ws[i]? := by
 have hz := w.sz
 rw [ext_get (by omega) (by omega), Nat.zero_add]
theorem SW.gn (w : SW ts ws) {i : Nat} (hi : i < 32) : gnW (ws.extract 0 64) i = ageAt (bkB ts) i := intAt_of (by rw [w.bk (by omega)]; exact w.g i hi)
theorem SW.kn (w : SW ts ws) {i : Nat} (hi : i < 32) : knW (ws.extract 0 64) i = kindAt (bkB ts) i := intAt_of (by rw [w.bk (by omega)]; exact w.s i hi)
theorem SW.wb (w : SW ts ws) (hb : TbOk ts) : WB (ws.extract 0 64) := by
 have hz := w.sz
 refine ⟨by rw [ext_size (by omega)], fun i hi => isI_of (by rw [w.bk (by omega)]; exact w.g i hi), fun i hi => isI_of (by rw [w.bk (by omega)]; exact w.s i hi), fun i hi => ?_, fun i hi => ?_⟩
 ·rw [w.gn hi]; exact hb.bk.ra i hi
 ·rw [w.kn hi]; exact hb.bk.rk i hi
theorem slFrom_of {vs : Array Value} {h : Int} {k : Nat} (h0 : ∀ j, j < 32 → knW vs j = 1 ∧ nameI j (gnW vs j) = h → j = k) (hk : knW vs k = 1 ∧ nameI k (gnW vs k) = h) : ∀ (n i : Nat), i + n = 32 → i ≤ k → k < 32 → slFrom vs h n i = (k : Int)
 | 0, i, e, h1, h2 => by omega
 | n + 1, i, e, h1, h2 => by
  show (if knW vs i = 1 ∧ nameI i (gnW vs i) = h then (i : Int) else slFrom vs h n (i + 1)) = _
  ·rename_i c; rw [h0 i (by omega) c]
   by_cases e2 : i = k
   ·rw [e2] at c; exact absurd hk c
   ·exact slFrom_of h0 hk n (i + 1) (by omega) (by omega) h2
theorem slFrom_no {vs : Array Value} {h : Int} (h0 : ∀ j, j < 32 → ¬ (knW vs j = 1 ∧ nameI j (gnW vs j) = h)) : ∀ (n i : Nat), i + n = 32 → slFrom vs h n i = -1
 | 0, i, e => rfl
 | n + 1, i, e => by
  show (if knW vs i = 1 ∧ nameI i (gnW vs i) = h then (i : Int) else slFrom vs h n (i + 1)) = _
  rw [if_neg (h0 i (by omega))]
  exact slFrom_no h0 n (i + 1) (by omega)
theorem SW.slot (w : SW ts ws) (hb : TbOk ts) (h : Int) : slW (ws.extract 0 64) h = if gdF ts h = true then (sl h : Int) else -1 := by
 unfold slW
  obtain ⟨_, _, h32, hk, hn, _⟩ := good_f hb hg
  refine slFrom_of (k := sl h) (fun j hj c => ?_) ?_ 32 0 rfl (Nat.zero_le _) h32
  ·rw [w.kn hj, w.gn hj] at c
   exact (name_inj hj h32 (c.2.trans hn)).1
  ·rw [w.kn h32, w.gn h32]
   exact ⟨hk, hn.symm⟩
  refine slFrom_no (fun j hj c => ?_) 32 0 rfl
  rw [w.kn hj, w.gn hj] at c
  exact hg ((goodB_iff hb.bk).2 ⟨j, hj, c.1, c.2.symm⟩)
theorem SW.cell (w : SW ts ws) (hb : TbOk ts) {h : Int} (hg : gdF ts h = true) {j : Nat} (hj : j < 12) : ws[64 + sl h * 12 + j]? = (rwF ts h)[j]? := by
 obtain ⟨_, _, h32, hk, hn, _⟩ := good_f hb hg
 have := w.r (sl h) h32 hk j hj
 unfold nmF at this
 rw [← hn] at this
theorem EI1_ok : EnvOk EI1 := EnvOk.with E0_ok _ _ fun g l m t h => by
 unfold conI1 at h
 ·rename_i ws x; cases h
  refine Con.asked fun hq => Con.args (l' := [wbS ws, i64 (.o x.den)]) (fun R vs ha => by
  exact rslot_con x.den m A ⟨fun p hp => hq p hp, hs⟩
 ·rename_i ws; cases h
  exact rissue_con m
 ·exact conI0_ok _ _ _ _ h
theorem rgood_con (h : Int) (m : SMem) : Con E0 39 [wtS ws, i64 (.o h)] m (needs [SW ts ws, TbOk ts] (.ret (sB (.o (gdF ts h))) m)) := by
 refine Con.pure E0_ok (by kernel_rfl : E0.fn 39 = some Tryd.f39) (by kernel_rfl : Tryd.f39.body = some (Tryd.f39.body.getD .skip)) (by kernel_rfl) (by kernel_rfl) fun hq => ?_
 have w : SW ts ws := hq _ (by simp)
 refine (Good.ret [] (run_vc EI1_ok 1000 (rg0 ws h (gdF ts h)) ?_ (fun s m h => h) fun _ _ h => h.elim)).mono fun _ _ h => h.1
 have hz := w.sz
 have hle : 64 ≤ ws.size := by omega
 have wb := w.wb hb
 have es := w.slot hb h
  have d : decide (slW (ws.extract 0 64) h ≥ 0) = true := decide_eq_true (by rw [es, if_pos hg]; omega)
  simp only [hz, h64, hle, wb, d, and_true, true_and]
  have d : decide (slW (ws.extract 0 64) h ≥ 0) = false := decide_eq_false (by rw [es, if_neg (by rw [hg]; decide)]; omega)
  simp only [hz, h64, hle, wb, d, and_true, true_and]
def gwT (ts : Array Value) (h : Int) : Array Value := if gdF ts h = true then rwF ts h else rwA 0 0 fun _ => 0
def gwE (ts : Array Value) (h : Int) : Int := if gdF ts h = true then 0 else 4
theorem rget_con (h : Int) (m : SMem) : Con E0 32 [wtS ws, i64 (.o h)] m (needs [SW ts ws, TbOk ts] (.ret (.tup [.agg (.op (gwT ts h)), .c (.f (.int .i64 (.o (gwE ts h))))]) m)) := by
 refine Con.pure E0_ok (by kernel_rfl : E0.fn 32 = some Tryd.f32) (by kernel_rfl : Tryd.f32.body = some (Tryd.f32.body.getD .skip)) (by kernel_rfl) (by kernel_rfl) fun hq => ?_
 have w : SW ts ws := hq _ (by simp)
 refine (Good.ret [] (run_vc EI1_ok 1000 (rt0 ws h (gwT ts h) (gwE ts h)) ?_ (fun s m h => h) fun _ _ h => h.elim)).mono fun _ _ h => h.1
 have hz := w.sz
 have hle : 64 ≤ ws.size := by omega
 have wb := w.wb hb
 have es := w.slot hb h
  rw [if_pos hg] at es
  have h32 := (good_f hb hg).2.2.1
  have d : decide ((sl h : Int) < 0) = false := decide_eq_false (by omega)
  have y0 : (0 : Int) ≤ (sl h : Int) := by omega
  have y1 : (sl h : Int) < 32 := by omega
  have c : ∀ j, j < 12 → ws[64 + sl h * 12 + j]? = (rwF ts h)[j]? := fun j hj => w.cell hb hg hj
  have c0 : ws[64 + sl h * 12]? = some (.int .i64 (upF ts h)) := c 0 (by decide)
  have c1 : ws[64 + sl h * 12 + 1]? = some (.int .i64 (quF ts h)) := c 1 (by decide)
  have c2 : ws[64 + sl h * 12 + 2]? = some (.slice none 0 0) := c 2 (by decide)
  have c3 : ws[64 + sl h * 12 + 3]? = some (.int .i64 0) := c 3 (by decide)
  have c4 : ws[64 + sl h * 12 + 4]? = some (.int .i64 (ceF ts h 0)) := c 4 (by decide)
  have c5 : ws[64 + sl h * 12 + 5]? = some (.int .i64 (ceF ts h 1)) := c 5 (by decide)
  have c6 : ws[64 + sl h * 12 + 6]? = some (.int .i64 (ceF ts h 2)) := c 6 (by decide)
  have c7 : ws[64 + sl h * 12 + 7]? = some (.int .i64 (ceF ts h 3)) := c 7 (by decide)
  have c8 : ws[64 + sl h * 12 + 8]? = some (.int .i64 (ceF ts h 4)) := c 8 (by decide)
  have c9 : ws[64 + sl h * 12 + 9]? = some (.int .i64 (ceF ts h 5)) := c 9 (by decide)
  have c10 : ws[64 + sl h * 12 + 10]? = some (.int .i64 (ceF ts h 6)) := c 10 (by decide)
  have c11 : ws[64 + sl h * 12 + 11]? = some (.int .i64 (ceF ts h 7)) := c 11 (by decide)
  have eT : gwT ts h = rwF ts h := if_pos hg
  have eE : gwE ts h = 0 := if_pos hg
  simp only [hz, h64, hle, wb, d, es, y0, y1, Int.toNat_natCast, c2, isI_of c0, isI_of c1, isI_of c3, isI_of c4, isI_of c5, isI_of c6, isI_of c7, isI_of c8, isI_of c9, isI_of c10, isI_of c11, intAt_of c0, intAt_of c1, intAt_of c3, intAt_of c4, intAt_of c5, intAt_of c6, intAt_of c7, intAt_of c8, intAt_of c9, intAt_of c10, intAt_of c11, eT, eE, true_implies, Bool.false_eq_true, false_implies, and_true, true_and]
  rw [if_neg (by rw [hg]; decide)] at es
  have d : decide (slW (ws.extract 0 64) h < 0) = true := decide_eq_true (by rw [es]; omega)
  have eT : gwT ts h = rwA 0 0 fun _ => 0 := if_neg (by rw [hg]; decide)
  have eE : gwE ts h = 4 := if_neg (by rw [hg]; decide)
  simp only [hz, h64, hle, wb, d, eT, eE, true_implies, Bool.true_eq_false, false_implies, and_true, true_and]
theorem rup_con (h : Int) (m : SMem) : Con E0 40 [wtS ws, i64 (.o h)] m (needs [SW ts ws, TbOk ts] (.ret (i64 (.o (upF ts h))) m)) := by
 refine Con.pure E0_ok (by kernel_rfl : E0.fn 40 = some Tryd.f40) (by kernel_rfl : Tryd.f40.body = some (Tryd.f40.body.getD .skip)) (by kernel_rfl) (by kernel_rfl) fun hq => ?_
 have w : SW ts ws := hq _ (by simp)
 refine (Good.ret [] (run_vc EI1_ok 1000 (up0 ws h (upF ts h)) ?_ (fun s m h => h) fun _ _ h => h.elim)).mono fun _ _ h => h.1
 have hz := w.sz
 have hle : 64 ≤ ws.size := by omega
 have wb := w.wb hb
 have es := w.slot hb h
  rw [if_pos hg] at es
  have h32 := (good_f hb hg).2.2.1
  have d : decide ((sl h : Int) < 0) = false := decide_eq_false (by omega)
  have y0 : (0 : Int) ≤ (sl h : Int) := by omega
  have y1 : (sl h : Int) < 32 := by omega
  have c : ∀ j, j < 12 → ws[64 + sl h * 12 + j]? = (rwF ts h)[j]? := fun j hj => w.cell hb hg hj
  have c0 : ws[64 + sl h * 12]? = some (.int .i64 (upF ts h)) := c 0 (by decide)
  have c1 : ws[64 + sl h * 12 + 1]? = some (.int .i64 (quF ts h)) := c 1 (by decide)
  have c2 : ws[64 + sl h * 12 + 2]? = some (.slice none 0 0) := c 2 (by decide)
  have c3 : ws[64 + sl h * 12 + 3]? = some (.int .i64 0) := c 3 (by decide)
  have c4 : ws[64 + sl h * 12 + 4]? = some (.int .i64 (ceF ts h 0)) := c 4 (by decide)
  have c5 : ws[64 + sl h * 12 + 5]? = some (.int .i64 (ceF ts h 1)) := c 5 (by decide)
  have c6 : ws[64 + sl h * 12 + 6]? = some (.int .i64 (ceF ts h 2)) := c 6 (by decide)
  have c7 : ws[64 + sl h * 12 + 7]? = some (.int .i64 (ceF ts h 3)) := c 7 (by decide)
  have c8 : ws[64 + sl h * 12 + 8]? = some (.int .i64 (ceF ts h 4)) := c 8 (by decide)
  have c9 : ws[64 + sl h * 12 + 9]? = some (.int .i64 (ceF ts h 5)) := c 9 (by decide)
  have c10 : ws[64 + sl h * 12 + 10]? = some (.int .i64 (ceF ts h 6)) := c 10 (by decide)
  have c11 : ws[64 + sl h * 12 + 11]? = some (.int .i64 (ceF ts h 7)) := c 11 (by decide)
  simp only [hz, h64, hle, wb, d, es, y0, y1, Int.toNat_natCast, c2, isI_of c0, isI_of c1, isI_of c3, isI_of c4, isI_of c5, isI_of c6, isI_of c7, isI_of c8, isI_of c9, isI_of c10, isI_of c11, intAt_of c0, true_implies, Bool.false_eq_true, false_implies, and_true, true_and]
  rw [if_neg (by rw [hg]; decide)] at es
  have d : decide (slW (ws.extract 0 64) h < 0) = true := decide_eq_true (by rw [es]; omega)
  have eu : upF ts h = 0 := if_neg (by rw [hg]; decide)
  simp only [hz, h64, hle, wb, d, eu, true_implies, Bool.true_eq_false, false_implies, and_true, true_and]
def i64s (l : List Int) : Array Value := (l.map (Value.int .i64)).toArray
noncomputable def rowW (l : List Int) (m : SMem) : Tree := .br (decide (l.length = 0)) (.ret (.s (.c (.f (.lit (.slice none 0 0))))) m) (.ret (.s (.c (.f (.slice m.next (.l 0) (.o l.length) (.full 1))))) (m.new (.pop (i64s l)) 3))
noncomputable def conI2 (ts : Array Value) (g : FuncId) (l : List SV) (m : SMem) : Option Tree := match g, l with
 | 39, [.s (.agg (.op ws)), .s (.c (.f (.int .i64 h)))] => some (.need [SW ts ws, TbOk ts] (.ret (sB (.o (gdF ts h.den))) m))
 | 32, [.s (.agg (.op ws)), .s (.c (.f (.int .i64 h)))] => some (.need [SW ts ws, TbOk ts] (.ret (.tup [.agg (.op (gwT ts h.den)), .c (.f (.int .i64 (.o (gwE ts h.den))))]) m))
 | 40, [.s (.agg (.op ws)), .s (.c (.f (.int .i64 h)))] => some (.need [SW ts ws, TbOk ts] (.ret (i64 (.o (upF ts h.den))) m))
 | g, l => conI1 g l m
noncomputable def EI2 : Env := ⟨Tryd.prog, fnOf, conI1, haltAt [35 * 1000 + 3, 43 * 1000 + 1]⟩
noncomputable def conDp (ts : Array Value) (n : Nat) (g : FuncId) (l : List SV) (m : SMem) : Option Tree := match g, l with
 | 15, [.s (.agg (.op ws)), .s (.c (.f (.int .i64 h)))] => some (.need [SW ts ws, FIn ts, depF ts h.den < n] (.ret (i64 (.o (depF ts h.den : Int))) m))
 | 17, [.s (.agg (.op ws)), .s (.c (.f (.int .i64 h)))] => some (.need [SW ts ws, FIn ts, depF ts h.den < n] (.ret (i64 (.o (rtF ts h.den))) m))
 | g, l => conI2 ts g l m
noncomputable def EDp (ts : Array Value) (n : Nat) : Env := ⟨Tryd.prog, fnOf, conDp ts n, haltAt []⟩
noncomputable def qZ_d0 : List SIt := sekF Tryd.f35 3
noncomputable def qZ_F (ws : Array Value) (i : Int) : List SFr := [frOf 35 Tryd.f35 [(1, ptr 0 (.l 0)), (3, nlS), (4, i64 (.o i))] qZ_d0]
noncomputable def qZ_M (ws : Array Value) (i : Int) : SMem := mkM 1 [(0, ⟨.op ws, 51, true⟩)]
noncomputable def qZ_n (ws : Array Value) (Q : Int → Prop) (fs : List SFr) (m : SMem) : Prop := (match frNth fs 0 with | some f0 => (match rdI f0 4 with | some i => (match rdP f0 1 with | some p0 => Q i ∧ subOk 0 [(0, p0)] (qZ_F ws i) (qZ_M ws i) fs m | none => False) | none => False) | none => False)
noncomputable def qS_d0 : List SIt := sekF Tryd.f35 3
noncomputable def qS_F (ws : Array Value) (i : Int) (k : Nat) (cs : Array Value) : List SFr := [frOf 35 Tryd.f35 [(1, ptr 0 (.l 0)), (3, slS 1 k), (4, i64 (.o i))] qS_d0]
noncomputable def qS_M (ws : Array Value) (i : Int) (k : Nat) (cs : Array Value) : SMem := mkM 2 [(0, ⟨.op ws, 51, true⟩), (1, ⟨.pop cs, 3, true⟩)]
noncomputable def qS_n (ws : Array Value) (Q : Int → Nat → Array Value → Prop) (fs : List SFr) (m : SMem) : Prop := (match frNth fs 0 with | some f0 => (match rdI f0 4 with | some i => (match rdP f0 1 with | some p0 => (match rdSI f0 3 with | some p1 => (match rdSN f0 3 with | some k => (match rdA m p1 with | some cs => Q i k cs ∧ subOk 0 [(0, p0), (1, p1)] (qS_F ws i k cs) (qS_M ws i k cs) fs m | none => False) | none => False) | none => False) | none => False) | none => False) | none => False)
noncomputable def qA_d0 : List SIt := sekF Tryd.f43 1
noncomputable def qA_F (ws : Array Value) (a : Int) (h : Int) : List SFr := [frOf 43 Tryd.f43 [(1, i64 (.o a)), (2, i64 (.o h)), (3, ptr 0 (.l 0))] qA_d0]
noncomputable def qA_M (ws : Array Value) (a : Int) (h : Int) : SMem := mkM 1 [(0, ⟨.op ws, 51, true⟩)]
noncomputable def qA_n (ws : Array Value) (a : Int) (Q : Int → Prop) (fs : List SFr) (m : SMem) : Prop := (match frNth fs 0 with | some f0 => (match rdI f0 2 with | some h => (match rdP f0 3 with | some p0 => Q h ∧ subOk 0 [(0, p0)] (qA_F ws a h) (qA_M ws a h) fs m | none => False) | none => False) | none => False)
noncomputable def qZS (ws : Array Value) (QZ : Int → Prop) (QS : Int → Nat → Array Value → Prop) (fs : List SFr) (m : SMem) : Prop := match fs with | f :: _ => (match f.tm.get 3 with | some (.s (.c (.f (.slice _ _ _ _)))) => qS_n ws QS fs m | _ => qZ_n ws QZ fs m) | [] => False
noncomputable def qz1_t (ws : Array Value) (i : Int) : Tree := stepT EI2.go (run EI2 1000) 0 (qZ_F ws i) (qZ_M ws i)
noncomputable def qs1_t (ws : Array Value) (i : Int) (k : Nat) (cs : Array Value) : Tree := stepT EI2.go (run EI2 1000) 0 (qS_F ws i k cs) (qS_M ws i k cs)
noncomputable def qa1_t (ws : Array Value) (a h : Int) : Tree := stepT EI2.go (run EI2 1000) 0 (qA_F ws a h) (qA_M ws a h)
theorem qZ_d0_ok (r : Nat → Option Nat) : TodoOk r qZ_d0 qZ_d0 := TodoOk.it (by kernel_rfl)
theorem qS_d0_ok (r : Nat → Option Nat) : TodoOk r qS_d0 qS_d0 := TodoOk.it (by kernel_rfl)
theorem qA_d0_ok (r : Nat → Option Nat) : TodoOk r qA_d0 qA_d0 := TodoOk.it (by kernel_rfl)
theorem qZ_good {A : SV → SMem → Prop} {ws : Array Value} {Q : Int → Prop} {fs : List SFr} {m : SMem} (H : ∀ i, Q i → Good Tryd.prog A 0 (qZ_F ws i) (qZ_M ws i)) (hb : qZ_n ws Q fs m) : Good Tryd.prog A 0 fs m := by
 unfold qZ_n at hb
theorem qS_good {A : SV → SMem → Prop} {ws : Array Value} {Q : Int → Nat → Array Value → Prop} {fs : List SFr} {m : SMem} (H : ∀ i k cs, Q i k cs → Good Tryd.prog A 0 (qS_F ws i k cs) (qS_M ws i k cs)) (hb : qS_n ws Q fs m) : Good Tryd.prog A 0 fs m := by
 unfold qS_n at hb
theorem qA_good {A : SV → SMem → Prop} {ws : Array Value} {a : Int} {Q : Int → Prop} {fs : List SFr} {m : SMem} (H : ∀ h, Q h → Good Tryd.prog A 0 (qA_F ws a h) (qA_M ws a h)) (hb : qA_n ws a Q fs m) : Good Tryd.prog A 0 fs m := by
 unfold qA_n at hb
theorem qa0 (ws : Array Value) (Q : Int → Prop) : (run EI2 1000 0 [callFr 35 Tryd.f35.ntmps [wtS ws] (Tryd.f35.body.getD .skip)] e0M).vc (fun _ _ => False) (qZ_n ws Q) =
  (Q (0 : Int) ∧ CallKind.normal = CallKind.normal ∧ TodoOk (ren 0 [(0, 0)]) qZ_d0 qZ_d0 ∧ Value.slice none 0 0 = Value.slice none 0 0 ∧ (0 : Int) = (0 : Int) ∧ (51 : TypeId) = (51 : Nat) ∧ ws = ws ∧ True) := by kernel_rfl
theorem qzN (ws : Array Value) (i : Int) (QZ : Int → Prop) (QS : Int → Nat → Array Value → Prop) : (qz1_t ws i).vc nilA (qZS ws QZ QS) =
  ((decide (i < 32) = true → ((0 ≤ i ∧ i < 32) ∧ True) ∧ (IsInt .i64 ws (32 + Int.toNat i * 1) ∧ True) ∧ ((intAt ws (32 + Int.toNat i * 1) == 1) = true → (64 ≤ Array.size ws ∧ True) ∧ (WB (Array.extract ws 0 64) ∧ (0 ≤ i ∧ i < 32) ∧ True) ∧ QS (ari .add .i64 i 1) (1 : Nat) #[Value.int .i64 (nameI (Int.toNat i) (gnW (Array.extract ws 0 64) (Int.toNat i)))] ∧ CallKind.normal = CallKind.normal ∧ TodoOk (ren 0 [(0, 0), (1, 2)]) qZ_d0 qZ_d0 ∧ (1 : Nat) = 1 ∧ ari .add .i64 i 1 = ari .add .i64 i 1 ∧ (51 : TypeId) = (51 : TypeId) ∧ ws = ws ∧ (3 : TypeId) = (3 : Nat) ∧ #[Value.int .i64 (nameI (Int.toNat i) (gnW (Array.extract ws 0 64) (Int.toNat i)))] = #[Value.int .i64 (nameI (Int.toNat i) (gnW (Array.extract ws 0 64) (Int.toNat i)))] ∧ True) ∧ ((intAt ws (32 + Int.toNat i * 1) == 1) = false → QZ (ari .add .i64 i 1) ∧ CallKind.normal = CallKind.normal ∧ TodoOk (ren 0 [(0, 0)]) qZ_d0 qZ_d0 ∧ Value.slice none 0 0 = Value.slice none 0 0 ∧ ari .add .i64 i 1 = ari .add .i64 i 1 ∧ (51 : TypeId) = (51 : TypeId) ∧ ws = ws ∧ True)) ∧ (decide (i < 32) = false → Value.slice none 0 0 = Value.slice none 0 0 ∧ True)) := by kernel_rfl
theorem qzF (ws : Array Value) (i : Int) (kF : Nat) (csF : Array Value) (QZ : Int → Prop) (QS : Int → Nat → Array Value → Prop) : (qz1_t ws i).vc (freshA kF csF 3) (qZS ws QZ QS) =
  ((decide (i < 32) = true → ((0 ≤ i ∧ i < 32) ∧ True) ∧ (IsInt .i64 ws (32 + Int.toNat i * 1) ∧ True) ∧ ((intAt ws (32 + Int.toNat i * 1) == 1) = true → (64 ≤ Array.size ws ∧ True) ∧ (WB (Array.extract ws 0 64) ∧ (0 ≤ i ∧ i < 32) ∧ True) ∧ QS (ari .add .i64 i 1) (1 : Nat) #[Value.int .i64 (nameI (Int.toNat i) (gnW (Array.extract ws 0 64) (Int.toNat i)))] ∧ CallKind.normal = CallKind.normal ∧ TodoOk (ren 0 [(0, 0), (1, 2)]) qZ_d0 qZ_d0 ∧ (1 : Nat) = 1 ∧ ari .add .i64 i 1 = ari .add .i64 i 1 ∧ (51 : TypeId) = (51 : TypeId) ∧ ws = ws ∧ (3 : TypeId) = (3 : Nat) ∧ #[Value.int .i64 (nameI (Int.toNat i) (gnW (Array.extract ws 0 64) (Int.toNat i)))] = #[Value.int .i64 (nameI (Int.toNat i) (gnW (Array.extract ws 0 64) (Int.toNat i)))] ∧ True) ∧ ((intAt ws (32 + Int.toNat i * 1) == 1) = false → QZ (ari .add .i64 i 1) ∧ CallKind.normal = CallKind.normal ∧ TodoOk (ren 0 [(0, 0)]) qZ_d0 qZ_d0 ∧ Value.slice none 0 0 = Value.slice none 0 0 ∧ ari .add .i64 i 1 = ari .add .i64 i 1 ∧ (51 : TypeId) = (51 : TypeId) ∧ ws = ws ∧ True)) ∧ (decide (i < 32) = false → False)) := by kernel_rfl
theorem qsF (ws : Array Value) (i : Int) (k : Nat) (cs : Array Value) (kF : Nat) (csF : Array Value) (QS : Int → Nat → Array Value → Prop) : (qs1_t ws i k cs).vc (freshA kF csF 3) (qS_n ws QS) =
  ((decide (i < 32) = true → ((0 ≤ i ∧ i < 32) ∧ True) ∧ (IsInt .i64 ws (32 + Int.toNat i * 1) ∧ True) ∧ ((intAt ws (32 + Int.toNat i * 1) == 1) = true → (64 ≤ Array.size ws ∧ True) ∧ (WB (Array.extract ws 0 64) ∧ (0 ≤ i ∧ i < 32) ∧ True) ∧ (((k + 1) * 8 ≤ 140737488355328 ∧ k + 1 ≤ 140737488355328) ∧ k * 1 = Array.size cs ∧ True) ∧ QS (ari .add .i64 i 1) (k + 1) (cs ++ #[Value.int .i64 (nameI (Int.toNat i) (gnW (Array.extract ws 0 64) (Int.toNat i)))]) ∧ CallKind.normal = CallKind.normal ∧ TodoOk (ren 0 [(0, 0), (1, 3)]) qZ_d0 qZ_d0 ∧ k + 1 = k + 1 ∧ ari .add .i64 i 1 = ari .add .i64 i 1 ∧ (51 : TypeId) = (51 : TypeId) ∧ ws = ws ∧ (3 : TypeId) = (3 : Nat) ∧ cs ++ #[Value.int .i64 (nameI (Int.toNat i) (gnW (Array.extract ws 0 64) (Int.toNat i)))] = cs ++ #[Value.int .i64 (nameI (Int.toNat i) (gnW (Array.extract ws 0 64) (Int.toNat i)))] ∧ True) ∧ ((intAt ws (32 + Int.toNat i * 1) == 1) = false → QS (ari .add .i64 i 1) k cs ∧ CallKind.normal = CallKind.normal ∧ TodoOk (ren 0 [(0, 0), (1, 1)]) qZ_d0 qZ_d0 ∧ k = k ∧ ari .add .i64 i 1 = ari .add .i64 i 1 ∧ (51 : TypeId) = (51 : TypeId) ∧ ws = ws ∧ (3 : TypeId) = (3 : TypeId) ∧ cs = cs ∧ True)) ∧ (decide (i < 32) = false → kF = k ∧ (3 : TypeId) = (3 : TypeId) ∧ csF = cs ∧ True)) := by kernel_rfl
theorem abv0 (ws : Array Value) (a h : Int) (Q : Int → Prop) : (run EI2 1000 0 [callFr 43 Tryd.f43.ntmps [wtS ws, i64 (.o a), i64 (.o h)] (Tryd.f43.body.getD .skip)] e0M).vc (fun _ _ => False) (qA_n ws a Q) =
  (Q h ∧ CallKind.normal = CallKind.normal ∧ TodoOk (ren 0 [(0, 0)]) qA_d0 qA_d0 ∧ a = a ∧ h = h ∧ (51 : TypeId) = (51 : Nat) ∧ ws = ws ∧ True) := by kernel_rfl
theorem abv1 (ws : Array Value) (a h : Int) (o : Bool) (Q : Int → Prop) : (qa1_t ws a h).vc (retOk 0 [] (sB (.o o)) e0M) (qA_n ws a Q) =
  (((h != 0) = true → (64 ≤ Array.size ws ∧ True) ∧ (WB (Array.extract ws 0 64) ∧ True) ∧ ((0 ≤ slW (Array.extract ws 0 64) h ∧ slW (Array.extract ws 0 64) h < 32) ∧ True) ∧ (IsInt .i64 ws (64 + Int.toNat (slW (Array.extract ws 0 64) h) * 12) ∧ True) ∧ ((intAt ws (64 + Int.toNat (slW (Array.extract ws 0 64) h) * 12) == a) = true → o = (a != 0) ∧ True) ∧ ((intAt ws (64 + Int.toNat (slW (Array.extract ws 0 64) h) * 12) == a) = false → Q (intAt ws (64 + Int.toNat (slW (Array.extract ws 0 64) h) * 12)) ∧ CallKind.normal = CallKind.normal ∧ TodoOk (ren 0 [(0, 0)]) qA_d0 qA_d0 ∧ a = a ∧ intAt ws (64 + Int.toNat (slW (Array.extract ws 0 64) h) * 12) = intAt ws (64 + Int.toNat (slW (Array.extract ws 0 64) h) * 12) ∧ (51 : TypeId) = (51 : TypeId) ∧ ws = ws ∧ True)) ∧ ((h != 0) = false → o = false ∧ True)) := by kernel_rfl
theorem dp0 (ts : Array Value) (n : Nat) (ws : Array Value) (h o : Int) : (run (EDp ts n) 1000 0 [callFr 15 Tryd.f15.ntmps [wtS ws, i64 (.o h)] (Tryd.f15.body.getD .skip)] e0M).vc (retOk 0 [] (i64 (.o o)) e0M) (fun _ _ => False) =
  ((Array.size ws = 448 ∧ True) ∧ (SW ts ws ∧ TbOk ts ∧ True) ∧ ((!gdF ts h) = true → o = 0 ∧ True) ∧ ((!gdF ts h) = false → (Array.size ws = 448 ∧ True) ∧ (Array.size ws = 448 ∧ True) ∧ (SW ts ws ∧ TbOk ts ∧ True) ∧ (SW ts ws ∧ FIn ts ∧ depF ts (upF ts h) < n ∧ True) ∧ o = ari .add .i64 (1 : Int) (↑(depF ts (upF ts h)) : Int) ∧ True)) := by kernel_rfl
theorem ro0 (ts : Array Value) (n : Nat) (ws : Array Value) (h o : Int) : (run (EDp ts n) 1000 0 [callFr 17 Tryd.f17.ntmps [wtS ws, i64 (.o h)] (Tryd.f17.body.getD .skip)] e0M).vc (retOk 0 [] (i64 (.o o)) e0M) (fun _ _ => False) =
  ((Array.size ws = 448 ∧ True) ∧ (SW ts ws ∧ TbOk ts ∧ True) ∧ ((gdF ts h == true) = true → (Array.size ws = 448 ∧ True) ∧ (SW ts ws ∧ TbOk ts ∧ True) ∧ ((upF ts h != 0) = true → (Array.size ws = 448 ∧ True) ∧ (Array.size ws = 448 ∧ True) ∧ (SW ts ws ∧ TbOk ts ∧ True) ∧ (SW ts ws ∧ FIn ts ∧ depF ts (upF ts h) < n ∧ True) ∧ o = rtF ts (upF ts h) ∧ True) ∧ ((upF ts h != 0) = false → (Array.size ws = 448 ∧ True) ∧ (SW ts ws ∧ TbOk ts ∧ True) ∧ (gdF ts h = true → o = h ∧ True) ∧ (gdF ts h = false → o = 0 ∧ True))) ∧ ((gdF ts h == true) = false → (Array.size ws = 448 ∧ True) ∧ (SW ts ws ∧ TbOk ts ∧ True) ∧ (gdF ts h = true → o = h ∧ True) ∧ (gdF ts h = false → o = 0 ∧ True))) := by kernel_rfl
theorem conI1_ok : ∀ g l m t, conI1 g l m = some t → Con E0 g l m t := fun g l m t h => by
theorem EI2_ok : EnvOk EI2 := EnvOk.with E0_ok _ _ conI1_ok
theorem conI2_ok (ts : Array Value) : ∀ g l m t, conI2 ts g l m = some t → Con E0 g l m t := by
 unfold conI2 at h
  refine Con.asked fun hq => Con.args (l' := [wtS ws, i64 (.o x.den)]) (fun R vs ha => by
  exact rgood_con x.den m A ⟨fun p hp => hq p hp, hs⟩
  refine Con.asked fun hq => Con.args (l' := [wtS ws, i64 (.o x.den)]) (fun R vs ha => by
  exact rget_con x.den m A ⟨fun p hp => hq p hp, hs⟩
  refine Con.asked fun hq => Con.args (l' := [wtS ws, i64 (.o x.den)]) (fun R vs ha => by
  exact rup_con x.den m A ⟨fun p hp => hq p hp, hs⟩
 ·exact conI1_ok _ _ _ _ h
theorem i64s_size (l : List Int) : (i64s l).size = l.length := by unfold i64s; rw [List.size_toArray, List.length_map]
theorem i64s_app (l : List Int) (x : Int) : i64s (l ++ [x]) = i64s l ++ #[.int .i64 x] := by unfold i64s; simp
theorem i64s_one (x : Int) : i64s [x] = #[.int .i64 x] := rfl
theorem i64s_at {l : List Int} {i : Nat} (hi : i < l.length) : (i64s l)[i]? = some (.int .i64 (l.getD i 0)) := by
 unfold i64s
 rw [List.getElem?_toArray, List.getElem?_map, List.getD_eq_getElem?_getD, List.getElem?_eq_getElem hi]
theorem qZS_good {A : SV → SMem → Prop} {QZ : Int → Prop} {QS : Int → Nat → Array Value → Prop} {fs : List SFr} {m : SMem} (hz : ∀ i, QZ i → Good Tryd.prog A 0 (qZ_F ws i) (qZ_M ws i)) (hs : ∀ i k cs, QS i k cs → Good Tryd.prog A 0 (qS_F ws i k cs) (qS_M ws i k cs)) (hb : qZS ws QZ QS fs m) : Good Tryd.prog A 0 fs m := by
 unfold qZS at hb
 ·split at hb
  ·exact qS_good hs hb
  ·exact qZ_good hz hb
theorem qS_ok (w : SW ts ws) (hb : TbOk ts) : ∀ (n i : Nat), i + n = 32 → Good Tryd.prog (freshA (lvT ts).length (i64s (lvT ts)) 3) 0 (qS_F ws (i : Int) (issL (bkB ts) i).length (i64s (issL (bkB ts) i))) (qS_M ws (i : Int) (issL (bkB ts) i).length (i64s (issL (bkB ts) i))) := by
  refine past_vc EI2_ok 1000 (qsF ws ((32 : Nat) : Int) _ _ (lvT ts).length (i64s (lvT ts)) (fun _ _ _ => False)) ?_ (fun _ _ h => h) (fun fs m hb => qS_good (fun _ _ _ h => h.elim) hb)
  simp only [d, lvT, issued, q6]
  refine past_vc EI2_ok 1000 (qsF ws (i : Int) _ _ (lvT ts).length (i64s (lvT ts)) (fun i' k' c' => i' = ((i + 1 : Nat) : Int) ∧ k' = (issL (bkB ts) (i + 1)).length ∧ c' = i64s (issL (bkB ts) (i + 1)))) ?_ (fun _ _ h => h) (fun fs m hb => qS_good (fun i' k' c' ⟨e1, e2, e3⟩ => by rw [e1, e2, e3]; exact ih (i + 1) (by omega)) hb)
  have s1 := isI_of (w.s i hi')
  have s2 := intAt_of (w.s i hi')
  have s3 := w.gn hi'
  have hle := issL_le (bs := bkB ts) i
  have z1 : ((issL (bkB ts) i).length + 1) * 8 ≤ 140737488355328 ∧ (issL (bkB ts) i).length + 1 ≤ 140737488355328 := ⟨by omega, by omega⟩
  by_cases c : kindAt (bkB ts) i = 1
  ·have c1 : (kindAt (bkB ts) i == 1) = true := beq_iff_eq.2 c
   simp only [Int.toNat_natCast, Nat.mul_one, d, ei, y0, y1, s1, s2, s3, z1, hz, h64, wb, c, c1, i64s_size, i64s_app, issL_succ, if_true, List.length_append, List.length_cons, List.length_nil, Nat.zero_add, beq_self_eq_true, decide_true, qZ_d0_ok, qS_d0_ok, q6]
  ·have c1 : (kindAt (bkB ts) i == 1) = false := beq_eq_false_iff_ne.2 c
   simp only [Int.toNat_natCast, Nat.mul_one, d, ei, y0, y1, s1, s2, hz, h64, wb, c1, issL_succ, if_neg c, decide_true, qZ_d0_ok, qS_d0_ok, q6]
theorem qZ_s (w : SW ts ws) (hb : TbOk ts) (hne : lvT ts ≠ []) : ∀ (n i : Nat), i + n = 32 → issL (bkB ts) i = [] → Good Tryd.prog (freshA (lvT ts).length (i64s (lvT ts)) 3) 0 (qZ_F ws (i : Int)) (qZ_M ws (i : Int)) := by
  intro i hi he
  exact absurd he hne
  intro i hi he
  refine past_vc EI2_ok 1000 (qzF ws (i : Int) (lvT ts).length (i64s (lvT ts)) (fun i' => i' = ((i + 1 : Nat) : Int) ∧ issL (bkB ts) (i + 1) = []) (fun i' k' c' => i' = ((i + 1 : Nat) : Int) ∧ k' = (issL (bkB ts) (i + 1)).length ∧ c' = i64s (issL (bkB ts) (i + 1)))) ?_ (fun _ _ h => h) (fun fs m hb' => qZS_good (fun i' ⟨e1, e2⟩ => by rw [e1]; exact ih (i + 1) (by omega) e2) (fun i' k' c' ⟨e1, e2, e3⟩ => by rw [e1, e2, e3]; exact qS_ok w hb n (i + 1) (by omega)) hb')
  have s1 := isI_of (w.s i hi')
  have s2 := intAt_of (w.s i hi')
  have s3 := w.gn hi'
  by_cases c : kindAt (bkB ts) i = 1
  ·have c1 : (kindAt (bkB ts) i == 1) = true := beq_iff_eq.2 c
   simp only [Int.toNat_natCast, Nat.mul_one, d, ei, y0, y1, s1, s2, s3, hz, h64, wb, c, c1, he, issL_succ, if_true, List.nil_append, List.length_cons, List.length_nil, Nat.zero_add, beq_self_eq_true, decide_true, qZ_d0_ok, qS_d0_ok, q6]
  ·have c1 : (kindAt (bkB ts) i == 1) = false := beq_eq_false_iff_ne.2 c
   simp only [Int.toNat_natCast, Nat.mul_one, d, ei, y0, y1, s1, s2, hz, h64, wb, c1, he, issL_succ, if_neg c, decide_true, qZ_d0_ok, qS_d0_ok, q6]
theorem qZ_nn (w : SW ts ws) (hb : TbOk ts) (hne : lvT ts = []) : ∀ (n i : Nat), i + n = 32 → Good Tryd.prog nilA 0 (qZ_F ws (i : Int)) (qZ_M ws (i : Int)) := by
  refine past_vc EI2_ok 1000 (qzN ws ((32 : Nat) : Int) (fun _ => False) (fun _ _ _ => False)) ?_ (fun _ _ h => h) (fun fs m hb => qZS_good (fun _ h => h.elim) (fun _ _ _ h => h.elim) hb)
  simp only [d, q6]
  refine past_vc EI2_ok 1000 (qzN ws (i : Int) (fun i' => i' = ((i + 1 : Nat) : Int)) (fun _ _ _ => False)) ?_ (fun _ _ h => h) (fun fs m hb' => qZS_good (fun i' e1 => by rw [e1]; exact ih (i + 1) (by omega)) (fun _ _ _ h => h.elim) hb')
  have s1 := isI_of (w.s i hi')
  have s2 := intAt_of (w.s i hi')
  have he := issL_pre (bkB ts) (i := i + 1) (by omega) hne
  have c : ¬ kindAt (bkB ts) i = 1 := by
   intro c
   rw [issL_succ, if_pos c] at he
   simp at he
  have c1 : (kindAt (bkB ts) i == 1) = false := beq_eq_false_iff_ne.2 c
  simp only [Int.toNat_natCast, Nat.mul_one, d, ei, y0, y1, s1, s2, hz, h64, wb, c1, decide_true, qZ_d0_ok, qS_d0_ok, q6]
theorem rall_con (m : SMem) : Con E0 35 [wtS ws] m (.need [SW ts ws, TbOk ts] (rowW (lvT ts) m)) := by
 refine Con.two (fun h => ?_) (fun h => ?_)
 ·have he : lvT ts = [] := List.eq_nil_of_length_eq_zero (of_decide_eq_true h)
  refine (show Con E0 35 [wtS ws] m (needs [] _) from Con.pure E0_ok (by kernel_rfl : E0.fn 35 = some Tryd.f35) (by kernel_rfl : Tryd.f35.body = some (Tryd.f35.body.getD .skip)) (by kernel_rfl) (by kernel_rfl) fun hq => ?_)
  refine (Good.ret (s0m := e0M) [] (run_vc EI2_ok 1000 (qa0 ws (fun i => i = ((0 : Nat) : Int))) ?_ (fun s m h => h.elim) fun fs m h => qZ_good (fun i e => by rw [e]; exact qZ_nn w hb he 32 0 (by omega)) h)).mono fun _ _ h => h.1
  simp only [and_true, true_and, qZ_d0_ok]
 ·have he : lvT ts ≠ [] := fun e => by
   have := of_decide_eq_false h
   rw [e] at this
   exact this rfl
  refine (show Con E0 35 [wtS ws] m (needs [] _) from Con.fresh E0_ok (by kernel_rfl : E0.fn 35 = some Tryd.f35) (by kernel_rfl : Tryd.f35.body = some (Tryd.f35.body.getD .skip)) (by kernel_rfl) rfl fun _ => ?_)
  refine Good.retX ((run_vc EI2_ok 1000 (qa0 ws (fun i => i = ((0 : Nat) : Int))) ?_ (fun s m h => h.elim) fun fs m h => qZ_good (A := freshA (lvT ts).length (i64s (lvT ts)) 3) (fun i e => by rw [e]; exact qZ_s w hb he 32 0 (by omega) rfl) h).mono fun s m h => ?_)
  ·simp only [and_true, true_and, qZ_d0_ok]
def abF (ts : Array Value) (a h : Int) : Bool := decide (a ∈ chL (upF ts) (upF ts h))
theorem up_0 : upF ts 0 = 0 := by
 have g : gdF ts 0 = false := by
  show goodB (bkB ts) 0 = false
  unfold goodB slotOk
  rw [decide_eq_false (by omega)]; rfl
 rw [g]
theorem up_cl (hf : FIn ts) {x : Int} (hx : x ∈ lvT ts) : upF ts x = 0 ∨ upF ts x ∈ lvT ts := hf.fo.cl x hx
theorem qA_ok (w : SW ts ws) (hf : FIn ts) (a : Int) : ∀ h, h = 0 ∨ h ∈ lvT ts → Good Tryd.prog (retOk 0 [] (sB (.o (abF ts a h))) e0M) 0 (qA_F ws a h) (qA_M ws a h) := by
 refine up_ind hf.fo ?_ ?_
 ·refine past_vc EI2_ok 1000 (abv1 ws a 0 (abF ts a 0) (fun _ => False)) ?_ (fun _ _ h => h) (fun fs m hb => qA_good (fun _ h => h.elim) hb)
  have d : ((0 : Int) != 0) = false := rfl
  have e : abF ts a 0 = false := by unfold abF; rw [up_0, ch_zero]; rfl
  simp only [d, e, q6]
 ·intro h hx ih
  have hg := (lv_mem hb).1 hx
  have h0 : (h != 0) = true := bne_iff_ne.2 (hf.fo.nz h hx)
  have es := w.slot hb h
  have c0 : ws[64 + sl h * 12]? = some (.int .i64 (upF ts h)) := w.cell hb hg (j := 0) (by decide)
  have i0 := isI_of c0
  have i1 := intAt_of c0
  by_cases c : upF ts h = a
  ·refine past_vc EI2_ok 1000 (abv1 ws a h (abF ts a h) (fun _ => False)) ?_ (fun _ _ h => h) (fun fs m hb => qA_good (fun _ h => h.elim) hb)
   have c1 : (upF ts h == a) = true := beq_iff_eq.2 c
   have e : abF ts a h = (a != 0) := by
    unfold abF
    rw [c]
    rcases up_cl hf hx with k | k
    ·rw [← c, k, ch_zero]; rfl
    ·rw [c] at k
     rw [ch_cons hf.fo k, decide_eq_true (List.mem_cons_self ..)]
     exact (bne_iff_ne.2 (hf.fo.nz a k)).symm
   simp only [Int.toNat_natCast, h0, hz, h64, wb, es, y0, y1, i0, i1, c1, e, q6]
  ·have e : abF ts a h = abF ts a (upF ts h) := by
    unfold abF
    rcases up_cl hf hx with k | k
    ·rw [k, up_0]
    ·rw [ch_cons hf.fo k]
     by_cases q : a ∈ chL (upF ts) (upF ts (upF ts h))
     ·rw [decide_eq_true q, decide_eq_true (List.mem_cons_of_mem _ q)]
     ·rw [decide_eq_false q, decide_eq_false (fun r => (List.mem_cons.1 r).elim (fun r => c r.symm) q)]
   refine past_vc EI2_ok 1000 (abv1 ws a h (abF ts a (upF ts h)) (fun h' => h' = upF ts h)) ?_ (fun _ _ h => h) (fun fs m hb => qA_good (fun h' e => by rw [e]; exact ih) hb)
   have c1 : (upF ts h == a) = false := beq_eq_false_iff_ne.2 c
   simp only [Int.toNat_natCast, h0, hz, h64, wb, es, y0, y1, i0, i1, c1, qA_d0_ok, q6]
theorem rabove_con (a h : Int) (m : SMem) : Con E0 43 [wtS ws, i64 (.o a), i64 (.o h)] m (needs [SW ts ws, FIn ts, h = 0 ∨ gdF ts h = true] (.ret (sB (.o (abF ts a h))) m)) := by
 refine Con.pure E0_ok (by kernel_rfl : E0.fn 43 = some Tryd.f43) (by kernel_rfl : Tryd.f43.body = some (Tryd.f43.body.getD .skip)) (by kernel_rfl) (by kernel_rfl) fun hq => ?_
 have hh : h = 0 ∨ gdF ts h = true := hq _ (by simp)
 refine (Good.ret (s0m := e0M) [] (run_vc EI2_ok 1000 (abv0 ws a h (fun h' => h' = h)) ?_ (fun s m h => h.elim) fun fs m hm => qA_good (fun h' e => by rw [e]; exact qA_ok w hf a h (hh.imp id (lv_mem hf.ok).2)) hm)).mono fun _ _ h => h.1
 simp only [and_true, true_and, qA_d0_ok]
theorem dep_up (hf : FIn ts) {x : Int} (hg : gdF ts x = true) : depF ts x = depF ts (upF ts x) + 1 := by
 have hx := (lv_mem hf.ok).2 hg
 have e1 : depF ts x = depL (upF ts) x := if_pos hg
 have e2 : depF ts (upF ts x) = depL (upF ts) (upF ts x) := by
  rcases up_cl hf hx with k | k
  ·rw [k, dep_zero]
   unfold depF
   ·exact dep_zero
  ·exact if_pos ((lv_mem hf.ok).1 k)
 exact dep_cons hf.fo hx
theorem rt_upF (hf : FIn ts) {x : Int} (hg : gdF ts x = true) : rtF ts x = if upF ts x = 0 then x else rtF ts (upF ts x) := by
 have hx := (lv_mem hf.ok).2 hg
 have e1 : rtF ts x = rtL (upF ts) x := if_pos hg
 ·rename_i c; rw [e1]; exact (rt_root hf.fo hx).2 c
  have k := (up_cl hf hx).resolve_left c
  have e2 : rtF ts (upF ts x) = rtL (upF ts) (upF ts x) := if_pos ((lv_mem hf.ok).1 k)
  rw [e1, e2]
  refine (rt_ch hf.fo x (.inr hx) ?_).symm
  rw [ch_cons hf.fo hx, ch_cons hf.fo k]
  exact List.mem_cons_of_mem _ (List.mem_cons_self ..)
theorem levels (ts : Array Value) : ∀ n : Nat, (∀ (ws : Array Value) (h : Int) (m : SMem), Con E0 15 [wtS ws, i64 (.o h)] m (.need [SW ts ws, FIn ts, depF ts h < n] (.ret (i64 (.o (depF ts h : Int))) m))) ∧ (∀ (ws : Array Value) (h : Int) (m : SMem), Con E0 17 [wtS ws, i64 (.o h)] m (.need [SW ts ws, FIn ts, depF ts h < n] (.ret (i64 (.o (rtF ts h))) m))) := by
  refine ⟨fun ws h m => Con.asked fun hq => ?_, fun ws h m => Con.asked fun hq => ?_⟩
  ·have : depF ts h < 0 := hq _ (by simp)
   exact absurd this (Nat.not_lt_zero _)
  ·have : depF ts h < 0 := hq _ (by simp)
   exact absurd this (Nat.not_lt_zero _)
  have hE : EnvOk (EDp ts n) := EnvOk.with E0_ok _ _ fun g l m t h => by
   unfold conDp at h
   ·rename_i ws x; cases h
    refine Con.asked fun hq => Con.args (l' := [wtS ws, i64 (.o x.den)]) (fun R vs ha => by
     match vs, ha with
     | [v, w], ha => exact ⟨ha.1, ha.2.1, trivial⟩) ?_
    intro A hs
    exact ih.1 ws x.den m A ⟨fun p hp => hq p hp, hs⟩
   ·rename_i ws x; cases h
    refine Con.asked fun hq => Con.args (l' := [wtS ws, i64 (.o x.den)]) (fun R vs ha => by
     match vs, ha with
     | [v, w], ha => exact ⟨ha.1, ha.2.1, trivial⟩) ?_
    intro A hs
    exact ih.2 ws x.den m A ⟨fun p hp => hq p hp, hs⟩
   ·exact conI2_ok ts _ _ _ _ h
  refine ⟨fun ws h m => ?_, fun ws h m => ?_⟩
  ·refine Con.asked fun hq => ?_
   refine (show Con E0 15 [wtS ws, i64 (.o h)] m (needs [] _) from Con.pure E0_ok (by kernel_rfl : E0.fn 15 = some Tryd.f15) (by kernel_rfl : Tryd.f15.body = some (Tryd.f15.body.getD .skip)) (by kernel_rfl) (by kernel_rfl) fun _ => ?_)
   have w : SW ts ws := hq _ (by simp)
   have hf : FIn ts := hq _ (by simp)
   have hd : depF ts h < n + 1 := hq _ (by simp)
   refine (Good.ret [] (run_vc hE 1000 (dp0 ts n ws h (depF ts h : Int)) ?_ (fun s m h => h) fun _ _ h => h.elim)).mono fun _ _ h => h.1
   have hz := w.sz
   have hb := hf.ok
   cases hg : gdF ts h with
    have e : depF ts h = 0 := if_neg (by rw [hg]; decide)
    simp only [hz, w, hb, hg, e, Bool.not_false, q6]
    rfl
    have e := dep_up hf hg
    have h13 := dep_13 hf h
    have e2 : ari .add .i64 1 (depF ts (upF ts h) : Int) = (depF ts h : Int) := by rw [ari_add, i64_in' (by omega) (by omega)]; omega
    have e3 : depF ts (upF ts h) < n := by omega
    simp only [hz, w, hb, hf, hg, e2, e3, Bool.not_true, q6]
  ·refine Con.asked fun hq => ?_
   refine (show Con E0 17 [wtS ws, i64 (.o h)] m (needs [] _) from Con.pure E0_ok (by kernel_rfl : E0.fn 17 = some Tryd.f17) (by kernel_rfl : Tryd.f17.body = some (Tryd.f17.body.getD .skip)) (by kernel_rfl) (by kernel_rfl) fun _ => ?_)
   have w : SW ts ws := hq _ (by simp)
   have hf : FIn ts := hq _ (by simp)
   have hd : depF ts h < n + 1 := hq _ (by simp)
   refine (Good.ret [] (run_vc hE 1000 (ro0 ts n ws h (rtF ts h)) ?_ (fun s m h => h) fun _ _ h => h.elim)).mono fun _ _ h => h.1
   have hz := w.sz
   have hb := hf.ok
   cases hg : gdF ts h with
    have e : rtF ts h = 0 := if_neg (by rw [hg]; decide)
    simp only [hz, w, hb, hg, e, beqT, beqF, Bool.not_false, q6]
    have e := dep_up hf hg
    have e3 : depF ts (upF ts h) < n := by omega
    have er := rt_upF hf hg
    by_cases c : upF ts h = 0
    ·have c1 : (upF ts h != 0) = false := by rw [c]; rfl
     rw [if_pos c] at er
     simp only [hz, w, hb, hf, hg, er, c1, beqT, beqF, Bool.not_true, q6]
    ·have c1 : (upF ts h != 0) = true := bne_iff_ne.2 c
     rw [if_neg c] at er
     simp only [hz, w, hb, hf, hg, er, c1, e3, beqT, beqF, Bool.not_true, q6]
theorem rdepth_con (h : Int) (m : SMem) : Con E0 15 [wtS ws, i64 (.o h)] m (.need [SW ts ws, FIn ts] (.ret (i64 (.o (depF ts h : Int))) m)) := by
 refine (levels ts (depF ts h + 1)).1 ws h m A ⟨fun p hp => ?_, hs.2⟩
 simp only [List.mem_cons, List.not_mem_nil, or_false] at hp
 rcases hp with rfl | rfl | rfl
 ·exact hs.1 _ (by simp)
 ·exact hs.1 _ (by simp)
 ·exact Nat.lt_succ_self _
theorem rroot_con (h : Int) (m : SMem) : Con E0 17 [wtS ws, i64 (.o h)] m (.need [SW ts ws, FIn ts] (.ret (i64 (.o (rtF ts h))) m)) := by
 refine (levels ts (depF ts h + 1)).2 ws h m A ⟨fun p hp => ?_, hs.2⟩
 simp only [List.mem_cons, List.not_mem_nil, or_false] at hp
 rcases hp with rfl | rfl | rfl
 ·exact hs.1 _ (by simp)
 ·exact hs.1 _ (by simp)
 ·exact Nat.lt_succ_self _
noncomputable def conI3 (ts : Array Value) (g : FuncId) (l : List SV) (m : SMem) : Option Tree := match g, l with
 | 35, [.s (.agg (.op ws))] => some (.need [SW ts ws, TbOk ts] (rowW (lvT ts) m))
 | 43, [.s (.agg (.op ws)), .s (.c (.f (.int .i64 a))), .s (.c (.f (.int .i64 h)))] => some (.need [SW ts ws, FIn ts, h.den = 0 ∨ gdF ts h.den = true] (.ret (sB (.o (abF ts a.den h.den))) m))
 | 15, [.s (.agg (.op ws)), .s (.c (.f (.int .i64 h)))] => some (.need [SW ts ws, FIn ts] (.ret (i64 (.o (depF ts h.den : Int))) m))
 | 17, [.s (.agg (.op ws)), .s (.c (.f (.int .i64 h)))] => some (.need [SW ts ws, FIn ts] (.ret (i64 (.o (rtF ts h.den))) m))
noncomputable def EI3 (ts : Array Value) : Env := ⟨Tryd.prog, fnOf, conI3 ts, haltAt [11 * 1000 + 4]⟩
noncomputable def EI3z (ts : Array Value) : Env := ⟨Tryd.prog, fnOf, conI3 ts, haltAt [11 * 1000 + 6]⟩
noncomputable def wkZ_d0 : List SIt := sekF Tryd.f11 4
noncomputable def wkZ_F (ws : Array Value) (h : Int) (n : Nat) (rs : Array Value) (i : Int) : List SFr := [frOf 11 Tryd.f11 [(1, i64 (.o h)), (2, ptr 0 (.l 0)), (5, nlS), (6, slS 1 n), (7, i64 (.o i))] wkZ_d0]
noncomputable def wkZ_M (ws : Array Value) (h : Int) (n : Nat) (rs : Array Value) (i : Int) : SMem := mkM 2 [(0, ⟨.op ws, 51, true⟩), (1, ⟨.pop rs, 3, true⟩)]
noncomputable def wkZ_n (ws : Array Value) (h : Int) (n : Nat) (rs : Array Value) (Q : Int → Prop) (fs : List SFr) (m : SMem) : Prop := (match frNth fs 0 with | some f0 => (match rdI f0 7 with | some i => (match rdP f0 2 with | some p0 => (match rdSI f0 6 with | some p1 => Q i ∧ subOk 0 [(0, p0), (1, p1)] (wkZ_F ws h n rs i) (wkZ_M ws h n rs i) fs m | none => False) | none => False) | none => False) | none => False)
noncomputable def wkS_d0 : List SIt := sekF Tryd.f11 4
noncomputable def wkS_F (ws : Array Value) (h : Int) (n : Nat) (rs : Array Value) (i : Int) (k : Nat) (cs : Array Value) : List SFr := [frOf 11 Tryd.f11 [(1, i64 (.o h)), (2, ptr 0 (.l 0)), (5, slS 2 k), (6, slS 1 n), (7, i64 (.o i))] wkS_d0]
noncomputable def wkS_M (ws : Array Value) (h : Int) (n : Nat) (rs : Array Value) (i : Int) (k : Nat) (cs : Array Value) : SMem := mkM 3 [(0, ⟨.op ws, 51, true⟩), (1, ⟨.pop rs, 3, true⟩), (2, ⟨.pop cs, 3, true⟩)]
noncomputable def wkS_n (ws : Array Value) (h : Int) (n : Nat) (rs : Array Value) (Q : Int → Nat → Array Value → Prop) (fs : List SFr) (m : SMem) : Prop := (match frNth fs 0 with | some f0 => (match rdI f0 7 with | some i => (match rdP f0 2 with | some p0 => (match rdSI f0 6 with | some p1 => (match rdSI f0 5 with | some p2 => (match rdSN f0 5 with | some k => (match rdA m p2 with | some cs => Q i k cs ∧ subOk 0 [(0, p0), (1, p1), (2, p2)] (wkS_F ws h n rs i k cs) (wkS_M ws h n rs i k cs) fs m | none => False) | none => False) | none => False) | none => False) | none => False) | none => False) | none => False)
noncomputable def wkZS (ws : Array Value) (h : Int) (n : Nat) (rs : Array Value) (QZ : Int → Prop) (QS : Int → Nat → Array Value → Prop) (fs : List SFr) (m : SMem) : Prop := match fs with | f :: _ => (match f.tm.get 5 with | some (.s (.c (.f (.slice _ _ _ _)))) => wkS_n ws h n rs QS fs m | _ => wkZ_n ws h n rs QZ fs m) | [] => False
noncomputable def wk0_t (ts ws : Array Value) (h : Int) : Tree := run (EI3 ts) 1000 0 [callFr 11 Tryd.f11.ntmps [wtS ws, i64 (.o h)] (Tryd.f11.body.getD .skip)] e0M
noncomputable def wkz_t (ts ws : Array Value) (h : Int) (n : Nat) (rs : Array Value) (i : Int) : Tree := stepT (EI3 ts).go (run (EI3 ts) 1000) 0 (wkZ_F ws h n rs i) (wkZ_M ws h n rs i)
noncomputable def wks_t (ts ws : Array Value) (h : Int) (n : Nat) (rs : Array Value) (i : Int) (k : Nat) (cs : Array Value) : Tree := stepT (EI3 ts).go (run (EI3 ts) 1000) 0 (wkS_F ws h n rs i k cs) (wkS_M ws h n rs i k cs)
theorem wkZ_d0_ok (r : Nat → Option Nat) : TodoOk r wkZ_d0 wkZ_d0 := TodoOk.it (by kernel_rfl)
theorem wkS_d0_ok (r : Nat → Option Nat) : TodoOk r wkS_d0 wkS_d0 := TodoOk.it (by kernel_rfl)
theorem wkZ_good {A : SV → SMem → Prop} {ws : Array Value} {h : Int} {n : Nat} {rs : Array Value} {Q : Int → Prop} {fs : List SFr} {m : SMem} (H : ∀ i, Q i → Good Tryd.prog A 0 (wkZ_F ws h n rs i) (wkZ_M ws h n rs i)) (hb : wkZ_n ws h n rs Q fs m) : Good Tryd.prog A 0 fs m := by
 unfold wkZ_n at hb
theorem wkS_good {A : SV → SMem → Prop} {ws : Array Value} {h : Int} {n : Nat} {rs : Array Value} {Q : Int → Nat → Array Value → Prop} {fs : List SFr} {m : SMem} (H : ∀ i k cs, Q i k cs → Good Tryd.prog A 0 (wkS_F ws h n rs i k cs) (wkS_M ws h n rs i k cs)) (hb : wkS_n ws h n rs Q fs m) : Good Tryd.prog A 0 fs m := by
 unfold wkS_n at hb
theorem wou0 (ts ws : Array Value) (a h : Int) (o : Bool) : (run (EI3 ts) 1000 0 [callFr 19 Tryd.f19.ntmps [wtS ws, i64 (.o a), i64 (.o h)] (Tryd.f19.body.getD .skip)] e0M).vc (retOk 0 [] (sB (.o o)) e0M) (fun _ _ => False) =
  ((Array.size ws = 448 ∧ True) ∧ (SW ts ws ∧ TbOk ts ∧ True) ∧ ((gdF ts a == true) = true → (Array.size ws = 448 ∧ True) ∧ (SW ts ws ∧ TbOk ts ∧ True) ∧ ((gdF ts h == true) = true → (((a == h) == false) = true → (Array.size ws = 448 ∧ True) ∧ (SW ts ws ∧ FIn ts ∧ (h = (0 : Int) ∨ gdF ts h = true) ∧ True) ∧ o = abF ts a h ∧ True) ∧ (((a == h) == false) = false → o = true ∧ True)) ∧ ((gdF ts h == true) = false → o = false ∧ True)) ∧ ((gdF ts a == true) = false → o = false ∧ True)) := by kernel_rfl
theorem wk0E (ts ws : Array Value) (h : Int) : (run (EI3z ts) 1000 0 [callFr 11 Tryd.f11.ntmps [wtS ws, i64 (.o h)] (Tryd.f11.body.getD .skip)] e0M).vc nilK (fun _ _ => False) =
  ((Array.size ws = 448 ∧ True) ∧ (SW ts ws ∧ TbOk ts ∧ True) ∧ (decide (List.length (lvT ts) = 0) = true → True) ∧ (decide (List.length (lvT ts) = 0) = false → (decide ((0 : Int) < (↑(List.length (lvT ts)) : Int)) = true → False) ∧ (decide ((0 : Int) < (↑(List.length (lvT ts)) : Int)) = false → True))) := by kernel_rfl
theorem wk0N (ts ws : Array Value) (h : Int) (n : Nat) (rs : Array Value) (Q : Int → Prop) : (wk0_t ts ws h).vc (fun _ _ => False) (wkZ_n ws h n rs Q) =
  ((Array.size ws = 448 ∧ True) ∧ (SW ts ws ∧ TbOk ts ∧ True) ∧ (decide (List.length (lvT ts) = 0) = true → False) ∧ (decide (List.length (lvT ts) = 0) = false → Q (0 : Int) ∧ CallKind.normal = CallKind.normal ∧ TodoOk (ren 0 [(0, 0), (1, 1)]) wkZ_d0 wkZ_d0 ∧ h = h ∧ (0 : Int) = (0 : Int) ∧ Value.slice none 0 0 = Value.slice none 0 0 ∧ n = List.length (lvT ts) ∧ (51 : TypeId) = (51 : Nat) ∧ ws = ws ∧ (3 : TypeId) = (3 : TypeId) ∧ rs = i64s (lvT ts) ∧ True)) := by kernel_rfl
theorem wkzN (ts ws : Array Value) (h : Int) (n : Nat) (rs : Array Value) (i : Int) (QZ : Int → Prop) (QS : Int → Nat → Array Value → Prop) : (wkz_t ts ws h n rs i).vc nilK (wkZS ws h n rs QZ QS) =
  ((decide (i < (↑n : Int)) = true → (Array.size ws = 448 ∧ True) ∧ (SW ts ws ∧ TbOk ts ∧ True) ∧ ((gdF ts h == true) = true → (Array.size ws = 448 ∧ True) ∧ ((0 ≤ i ∧ i < (↑n : Int)) ∧ True) ∧ (IsInt .i64 rs (0 + Int.toNat i * 1) ∧ True) ∧ (SW ts ws ∧ TbOk ts ∧ True) ∧ ((upF ts (intAt rs (0 + Int.toNat i * 1)) == h) = true → ((0 ≤ i ∧ i < (↑n : Int)) ∧ True) ∧ (IsInt .i64 rs (0 + Int.toNat i * 1) ∧ True) ∧ QS (ari .add .i64 i 1) (1 : Nat) #[Value.int .i64 (intAt rs (0 + Int.toNat i * 1))] ∧ CallKind.normal = CallKind.normal ∧ TodoOk (ren 0 [(0, 0), (1, 1), (2, 3)]) wkZ_d0 wkZ_d0 ∧ h = h ∧ ari .add .i64 i 1 = ari .add .i64 i 1 ∧ (1 : Nat) = 1 ∧ n = n ∧ (51 : TypeId) = (51 : TypeId) ∧ ws = ws ∧ (3 : TypeId) = (3 : TypeId) ∧ rs = rs ∧ (3 : TypeId) = (3 : Nat) ∧ #[Value.int .i64 (intAt rs (0 + Int.toNat i * 1))] = #[Value.int .i64 (intAt rs (0 + Int.toNat i * 1))] ∧ True) ∧ ((upF ts (intAt rs (0 + Int.toNat i * 1)) == h) = false → QZ (ari .add .i64 i 1) ∧ CallKind.normal = CallKind.normal ∧ TodoOk (ren 0 [(0, 0), (1, 1)]) wkZ_d0 wkZ_d0 ∧ h = h ∧ ari .add .i64 i 1 = ari .add .i64 i 1 ∧ Value.slice none 0 0 = Value.slice none 0 0 ∧ n = n ∧ (51 : TypeId) = (51 : TypeId) ∧ ws = ws ∧ (3 : TypeId) = (3 : TypeId) ∧ rs = rs ∧ True)) ∧ ((gdF ts h == true) = false → QZ (ari .add .i64 i 1) ∧ CallKind.normal = CallKind.normal ∧ TodoOk (ren 0 [(0, 0), (1, 1)]) wkZ_d0 wkZ_d0 ∧ h = h ∧ ari .add .i64 i 1 = ari .add .i64 i 1 ∧ Value.slice none 0 0 = Value.slice none 0 0 ∧ n = n ∧ (51 : TypeId) = (51 : TypeId) ∧ ws = ws ∧ (3 : TypeId) = (3 : TypeId) ∧ rs = rs ∧ True)) ∧ (decide (i < (↑n : Int)) = false → True)) := by kernel_rfl
theorem wkzF (ts ws : Array Value) (h : Int) (n : Nat) (rs : Array Value) (i : Int) (kF : Nat) (csF : Array Value) (QZ : Int → Prop) (QS : Int → Nat → Array Value → Prop) : (wkz_t ts ws h n rs i).vc (freshA kF csF 3) (wkZS ws h n rs QZ QS) =
  ((decide (i < (↑n : Int)) = true → (Array.size ws = 448 ∧ True) ∧ (SW ts ws ∧ TbOk ts ∧ True) ∧ ((gdF ts h == true) = true → (Array.size ws = 448 ∧ True) ∧ ((0 ≤ i ∧ i < (↑n : Int)) ∧ True) ∧ (IsInt .i64 rs (0 + Int.toNat i * 1) ∧ True) ∧ (SW ts ws ∧ TbOk ts ∧ True) ∧ ((upF ts (intAt rs (0 + Int.toNat i * 1)) == h) = true → ((0 ≤ i ∧ i < (↑n : Int)) ∧ True) ∧ (IsInt .i64 rs (0 + Int.toNat i * 1) ∧ True) ∧ QS (ari .add .i64 i 1) (1 : Nat) #[Value.int .i64 (intAt rs (0 + Int.toNat i * 1))] ∧ CallKind.normal = CallKind.normal ∧ TodoOk (ren 0 [(0, 0), (1, 1), (2, 3)]) wkZ_d0 wkZ_d0 ∧ h = h ∧ ari .add .i64 i 1 = ari .add .i64 i 1 ∧ (1 : Nat) = 1 ∧ n = n ∧ (51 : TypeId) = (51 : TypeId) ∧ ws = ws ∧ (3 : TypeId) = (3 : TypeId) ∧ rs = rs ∧ (3 : TypeId) = (3 : Nat) ∧ #[Value.int .i64 (intAt rs (0 + Int.toNat i * 1))] = #[Value.int .i64 (intAt rs (0 + Int.toNat i * 1))] ∧ True) ∧ ((upF ts (intAt rs (0 + Int.toNat i * 1)) == h) = false → QZ (ari .add .i64 i 1) ∧ CallKind.normal = CallKind.normal ∧ TodoOk (ren 0 [(0, 0), (1, 1)]) wkZ_d0 wkZ_d0 ∧ h = h ∧ ari .add .i64 i 1 = ari .add .i64 i 1 ∧ Value.slice none 0 0 = Value.slice none 0 0 ∧ n = n ∧ (51 : TypeId) = (51 : TypeId) ∧ ws = ws ∧ (3 : TypeId) = (3 : TypeId) ∧ rs = rs ∧ True)) ∧ ((gdF ts h == true) = false → QZ (ari .add .i64 i 1) ∧ CallKind.normal = CallKind.normal ∧ TodoOk (ren 0 [(0, 0), (1, 1)]) wkZ_d0 wkZ_d0 ∧ h = h ∧ ari .add .i64 i 1 = ari .add .i64 i 1 ∧ Value.slice none 0 0 = Value.slice none 0 0 ∧ n = n ∧ (51 : TypeId) = (51 : TypeId) ∧ ws = ws ∧ (3 : TypeId) = (3 : TypeId) ∧ rs = rs ∧ True)) ∧ (decide (i < (↑n : Int)) = false → False)) := by kernel_rfl
theorem wksF (ts ws : Array Value) (h : Int) (n : Nat) (rs : Array Value) (i : Int) (k : Nat) (cs : Array Value) (kF : Nat) (csF : Array Value) (QS : Int → Nat → Array Value → Prop) : (wks_t ts ws h n rs i k cs).vc (freshA kF csF 3) (wkS_n ws h n rs QS) =
  ((decide (i < (↑n : Int)) = true → (Array.size ws = 448 ∧ True) ∧ (SW ts ws ∧ TbOk ts ∧ True) ∧ ((gdF ts h == true) = true → (Array.size ws = 448 ∧ True) ∧ ((0 ≤ i ∧ i < (↑n : Int)) ∧ True) ∧ (IsInt .i64 rs (0 + Int.toNat i * 1) ∧ True) ∧ (SW ts ws ∧ TbOk ts ∧ True) ∧ ((upF ts (intAt rs (0 + Int.toNat i * 1)) == h) = true → ((0 ≤ i ∧ i < (↑n : Int)) ∧ True) ∧ (IsInt .i64 rs (0 + Int.toNat i * 1) ∧ True) ∧ (((k + 1) * 8 ≤ 140737488355328 ∧ k + 1 ≤ 140737488355328) ∧ k * 1 = Array.size cs ∧ True) ∧ QS (ari .add .i64 i 1) (k + 1) (cs ++ #[Value.int .i64 (intAt rs (0 + Int.toNat i * 1))]) ∧ CallKind.normal = CallKind.normal ∧ TodoOk (ren 0 [(0, 0), (1, 1), (2, 4)]) wkZ_d0 wkZ_d0 ∧ h = h ∧ ari .add .i64 i 1 = ari .add .i64 i 1 ∧ k + 1 = k + 1 ∧ n = n ∧ (51 : TypeId) = (51 : TypeId) ∧ ws = ws ∧ (3 : TypeId) = (3 : TypeId) ∧ rs = rs ∧ (3 : TypeId) = (3 : Nat) ∧ cs ++ #[Value.int .i64 (intAt rs (0 + Int.toNat i * 1))] = cs ++ #[Value.int .i64 (intAt rs (0 + Int.toNat i * 1))] ∧ True) ∧ ((upF ts (intAt rs (0 + Int.toNat i * 1)) == h) = false → QS (ari .add .i64 i 1) k cs ∧ CallKind.normal = CallKind.normal ∧ TodoOk (ren 0 [(0, 0), (1, 1), (2, 2)]) wkZ_d0 wkZ_d0 ∧ h = h ∧ ari .add .i64 i 1 = ari .add .i64 i 1 ∧ k = k ∧ n = n ∧ (51 : TypeId) = (51 : TypeId) ∧ ws = ws ∧ (3 : TypeId) = (3 : TypeId) ∧ rs = rs ∧ (3 : TypeId) = (3 : TypeId) ∧ cs = cs ∧ True)) ∧ ((gdF ts h == true) = false → QS (ari .add .i64 i 1) k cs ∧ CallKind.normal = CallKind.normal ∧ TodoOk (ren 0 [(0, 0), (1, 1), (2, 2)]) wkZ_d0 wkZ_d0 ∧ h = h ∧ ari .add .i64 i 1 = ari .add .i64 i 1 ∧ k = k ∧ n = n ∧ (51 : TypeId) = (51 : TypeId) ∧ ws = ws ∧ (3 : TypeId) = (3 : TypeId) ∧ rs = rs ∧ (3 : TypeId) = (3 : TypeId) ∧ cs = cs ∧ True)) ∧ (decide (i < (↑n : Int)) = false → kF = k ∧ (3 : TypeId) = (3 : TypeId) ∧ csF = cs ∧ True)) := by kernel_rfl
end Go.Proofs.YtklhlkdpidkijaaDoor
