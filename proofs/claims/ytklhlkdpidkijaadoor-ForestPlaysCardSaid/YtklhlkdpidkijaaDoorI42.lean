/- Of forests: ForestPlays: its runs end with true. No condition. -/
import Derived.Test.YtklhlkdpidkijaaDoorMD
set_option linter.unusedVariables false
set_option linter.unusedSimpArgs false
namespace Go.Proofs.YtklhlkdpidkijaaDoor
set_option maxRecDepth 100000
set_option linter.unusedSimpArgs false
set_option linter.unusedVariables false
theorem conPl_ok (ts : Array Value) : ∀ g l m t, conPl ts g l m = some t → Con E0 g l m t := by
 intro g l m t h
 unfold conPl at h
 split at h
 ·rename_i us ws; cases h
  refine Con.asked fun hq => Con.args (l' := [tbS us, wtS ws]) (fun R vs ha => by
   match vs, ha with
   | [v, w], ha => exact ⟨ha.1, ha.2.1, trivial⟩) ?_
  intro A hs
  exact same_con m A ⟨fun p hp => hq p hp, hs⟩
 ·rename_i us ws d a b c q; cases h
  refine Con.asked fun hq => Con.args (l' := [tbS us, wtS ws, acV d.den a.den b.den c.den q.den]) (fun R vs ha => by
   match vs, ha with
   | [v, w, z], ha => exact ⟨ha.1, ha.2.1, ac_ok ha.2.2.1, trivial⟩) ?_
  intro A hs
  exact do_con d.den a.den b.den c.den q.den m A ⟨fun p hp => hq p hp, hs⟩
 ·exact conDo_ok ts _ _ _ _ h
theorem EPl_ok (ts : Array Value) : EnvOk (EPl ts) := EnvOk.with E0_ok _ _ (conPl_ok ts)
theorem EPz_ok (ts : Array Value) : EnvOk (EPz ts) := EnvOk.with E0_ok _ _ (conPl_ok ts)
theorem EPn_ok (ts : Array Value) : EnvOk (EPn ts) := EnvOk.with E0_ok _ _ (conPl_ok ts)
theorem zW_book : ∀ i, i < 64 → vEq (zW[i]?) (some (.int .i64 0)) = true := by decide +kernel
theorem zW_rg : ∀ i, i < 32 → ∀ k, k < 12 → vEq (zW[64 + i * 12 + k]?) ((rwA 0 0 fun _ => 0)[k]?) = true := by decide +kernel
theorem SW_zero : SW zT zW := by
 refine ⟨zW_sz, fun i hi => ?_, fun i hi => ?_, fun i hi hk => ?_, fun i hi _ j hj => vEq_ok (zW_rg i hi j hj)⟩
 ·rw [z_age hi]; exact vEq_ok (zW_book i (by omega))
 ·rw [z_kind hi]; exact vEq_ok (zW_book (32 + i) (by omega))
 ·rw [z_kind hi] at hk; exact absurd hk (by decide)
def ActOk (cs : Array Value) (p : Nat) : Prop := IsInt .u8 cs p ∧ IsInt .u32 cs (p + 1) ∧ IsInt .u32 cs (p + 2) ∧ IsInt .u32 cs (p + 3) ∧ IsInt .i64 cs (p + 4) ∧ (0 ≤ intAt cs p ∧ intAt cs p ≤ 255) ∧ inH (intAt cs (p + 1)) ∧ inH (intAt cs (p + 2)) ∧ inH (intAt cs (p + 3))
def ActsOk (cs : Array Value) (off n : Nat) : Prop := ∀ i, i < n → ActOk cs (off + i * 5)
section
variable {ts ws : Array Value} {cs : Array Value} {off n : Nat} {ty : TypeId} {a b : Int}
theorem plX_good {A : SV → SMem → Prop} {QL : Int → Array Value → Array Value → Prop} {QE : Array Value → Array Value → Prop} {fs : List SFr} {m : SMem} (hL : ∀ i ts ws, QL i ts ws → Good Tryd.prog A 1 (plL_F off n cs ty a b i ts ws) (plL_M off n cs ty a b i ts ws)) (hE : ∀ ts ws, QE ts ws → Good Tryd.prog A 1 (plE_F a b ts ws) (plE_M a b ts ws)) (hb : plX off n cs ty a b QL QE fs m) : Good Tryd.prog A 1 fs m := by
 unfold plX at hb
 split at hb
 ·exact plL_good hL hb
 ·exact plE_good hE hb
theorem rt_in (hf : FIn ts) (x : Int) : inH (rtF ts x) := by
 unfold rtF
 split
 ·rename_i hg
  have hx := (lv_mem hf.ok).2 hg
  exact lv_in hf.ok (.inr (ch_sub hf.fo x (.inr hx) _ (rt_mem hf.fo x (.inr hx) hx).1))
 ·exact ⟨by decide, by decide⟩
theorem plE_ok (w : SW ts ws) (hv : FV ts) (ha : inH a) (hb : inH b) : Good Tryd.prog (isB true) 1 (plE_F a b ts ws) (plE_M a b ts ws) := by
 have hf := hv.f
 have ht := hf.ok
 have hs := ht.sz
 have hw := w.sz
 have hx := nm_in ht ha
 have hy := nm_in ht hb
 have ha' : 0 ≤ a ∧ a < 4294967296 := ha
 have hb' : 0 ≤ b ∧ b < 4294967296 := hb
 have hx' : 0 ≤ nmA ts a ∧ nmA ts a < 4294967296 := hx
 have hy' : 0 ≤ nmA ts b ∧ nmA ts b < 4294967296 := hy
 have ex := wr32 hx
 have ey := wr32 hy
 have er := wr64 (rt_in hf (nmA ts a))
 refine past_vc (EPn_ok ts) 1000 (plE ts ws a b) ?_ (fun _ _ h => h) fun _ _ h => h.elim
 have hr : ∀ l : List Int, l.length ≤ 32 → (∀ x ∈ l, x ∈ lvT ts) → rEq (u32s l) (i64s l) l.length l.length := fun l h1 h2 => ⟨l, rfl, rfl, rfl, rfl, h1, fun x hx => lv_in ht (.inr (h2 x hx))⟩
 have hrk := hr (kdF ts (nmA ts a)) (kd_len ts _) fun x hx => (kdF_mem hx).1
 have hru : rEq (u32s (unT ts (nmA ts a))) (i64s (unT ts (nmA ts a))) (unT ts (nmA ts a)).length (unT ts (nmA ts a)).length := by
  cases g : gdF ts (nmA ts a) with
  | true =>
   have hl := (lv_mem ht).2 g
   have hun : unT ts (nmA ts a) = UNL ts (nmA ts a) := if_pos g
   exact hr _ (by rw [hun]; exact un_32 hf hl) fun x hx => by rw [hun] at hx; exact (un_sub hf.fo _ hl x hx).1
  | false =>
   have e : unT ts (nmA ts a) = [] := by unfold unT; rw [g]; rfl
   rw [e]
   exact hr [] (by decide) (fun x hx => by cases hx)
 cases k1 : decide ((kdF ts (nmA ts a)).length = 0) <;> cases k2 : decide ((unT ts (nmA ts a)).length = 0)
 all_goals simp only [tl2, tl1, k1, k2, ex, ey, er, hrk, hru, hs, hw, w, hf, ht, ha', hb', hx', hy', beq_self_eq_true, decide_true, beqT, beqF, q6]
theorem plL_ok (ha : inH a) (hb : inH b) (hn : n ≤ 100) (hA : ActsOk cs off n) : ∀ (r i : Nat), i + r = n → ∀ ts ws, SW ts ws → FV ts → Good Tryd.prog (isB true) 1 (plL_F off n cs ty a b (i : Int) ts ws) (plL_M off n cs ty a b (i : Int) ts ws) := by
 intro r
 induction r with
 | zero =>
  intro i hi ts ws w hv
  obtain rfl : i = n := by omega
  refine past_vc (EPl_ok ts) 1000 (pl1 ts off i cs ty a b _ ts ws (fun _ _ _ => False) (fun us vs => us = ts ∧ vs = ws)) ?_ (fun _ _ h => h) (fun fs m hm => plX_good (fun _ _ _ h => h.elim) (fun us vs ⟨e1, e2⟩ => by rw [e1, e2]; exact plE_ok w hv ha hb) hm)
  unfold pl1_1 pl1_0
  have d : decide ((i : Int) < (i : Int)) = false := decide_eq_false (by omega)
  simp only [d, plE_d0_ok, q6]
 | succ r ih =>
  intro i hi ts ws w hv
  have hi' : i < n := by omega
  obtain ⟨i0, i1, i2, i3, i4, _, r1, r2, r3⟩ := hA i hi'
  have r1' : 0 ≤ intAt cs (off + i * 5 + 1) ∧ intAt cs (off + i * 5 + 1) < 4294967296 := r1
  have r2' : 0 ≤ intAt cs (off + i * 5 + 2) ∧ intAt cs (off + i * 5 + 2) < 4294967296 := r2
  have r3' : 0 ≤ intAt cs (off + i * 5 + 3) ∧ intAt cs (off + i * 5 + 3) < 4294967296 := r3
  obtain ⟨v1, w1⟩ := ac_f w hv r1 r2 r3 (d := intAt cs (off + i * 5)) (q := intAt cs (off + i * 5 + 4))
  refine past_vc (EPl_ok ts) 1000 (pl1 ts off n cs ty a b (i : Int) ts ws (fun i' us vs => i' = ((i + 1 : Nat) : Int) ∧ SW us vs ∧ FV us) (fun _ _ => False)) ?_ (fun _ _ h => h) (fun fs m hm => plX_good (fun i' us vs ⟨e1, e2, e3⟩ => by rw [e1]; exact ih (i + 1) (by omega) us vs e2 e3) (fun _ _ h => h.elim) hm)
  unfold pl1_1 pl1_0
  have d : decide ((i : Int) < (n : Int)) = true := decide_eq_true (by omega)
  have ei : ari .add .i64 (i : Int) 1 = ((i + 1 : Nat) : Int) := by rw [ari_add, i64_in' (by omega) (by omega)]; omega
  have y0 : 0 ≤ (i : Int) := by omega
  have y1 : (i : Int) < (n : Int) := by omega
  have hs := hv.f.ok.sz
  have hw := w.sz
  have s1 := v1.f.ok.sz
  have s2 := w1.sz
  have t1 := v1.f.ok
  simp only [Int.toNat_natCast, d, ei, y0, y1, i0, i1, i2, i3, i4, r1', r2', r3', v1, w1, s1, s2, t1, hs, hw, w, hv, decide_true, plL_d0_ok, q6]
theorem plays_run (ha : inH a) (hb : inH b) (hA : ActsOk cs off n) : Good Tryd.prog (isB true) 1 [callFr 3 Tryd.f3.ntmps [acS off n, u32v a, u32v b] (Tryd.f3.body.getD .skip)] (mkM 1 [(0, ⟨.raw cs, ty, false⟩)]) := by
 refine run_vc (EPl_ok zT) 1000 (pl0 zT off n cs ty a b (fun i us vs => i = ((0 : Nat) : Int) ∧ us = zT ∧ vs = zW ∧ n ≤ 100)) ?_ (fun s m h => h) fun fs m hm => plL_good (fun i us vs ⟨e1, e2, e3, e4⟩ => by rw [e1, e2, e3]; exact plL_ok ha hb e4 hA n 0 (Nat.zero_add _) _ _ SW_zero FV_zero) hm
 by_cases c : n ≤ 100
 ·have d : decide ((n : Int) > 100) = false := decide_eq_false (by omega)
  simp only [d, c, plL_d0_ok, q6]
  rfl
 ·have d : decide ((n : Int) > 100) = true := decide_eq_true (by omega)
  simp only [d, q6]
theorem plays_nil (ha : inH a) (hb : inH b) : Good Tryd.prog (isB true) 1 [callFr 3 Tryd.f3.ntmps [eS, u32v a, u32v b] (Tryd.f3.body.getD .skip)] (mkM 1 []) := by
 refine run_vc (EPz_ok zT) 1000 (plZ zT a b (fun us vs => us = zT ∧ vs = zW)) ?_ (fun s m h => h) fun fs m hm => plE_good (fun us vs ⟨e1, e2⟩ => by rw [e1, e2]; exact plE_ok SW_zero FV_zero ha hb) hm
 simp only [and_true, true_and, plE_d0_ok, cNt]
end
end Go.Proofs.YtklhlkdpidkijaaDoor
