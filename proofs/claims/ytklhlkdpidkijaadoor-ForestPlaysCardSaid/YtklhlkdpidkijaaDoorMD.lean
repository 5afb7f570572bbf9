/- The document's forest (layer 6): Outlives, Kids: contracts. No condition. -/
import Derived.Test.YtklhlkdpidkijaaDoorMC
set_option linter.unusedVariables false
set_option linter.unusedSimpArgs false
namespace Go.Proofs.YtklhlkdpidkijaaDoor
set_option maxRecDepth 100000
set_option linter.unusedSimpArgs false
set_option linter.unusedVariables false
theorem conI3_ok (ts : Array Value) : ∀ g l m t, conI3 ts g l m = some t → Con E0 g l m t := by
 intro g l m t h
 unfold conI3 at h
 split at h
 ·rename_i ws; cases h
  exact rall_con m
 ·rename_i ws a x; cases h
  refine Con.asked fun hq => Con.args (l' := [wtS ws, i64 (.o a.den), i64 (.o x.den)]) (fun R vs ha => by
   match vs, ha with
   | [v, w, z], ha => exact ⟨ha.1, ha.2.1, ha.2.2.1, trivial⟩) ?_
  intro A hs
  exact rabove_con a.den x.den m A ⟨fun p hp => hq p hp, hs⟩
 ·rename_i ws x; cases h
  refine Con.asked fun hq => Con.args (l' := [wtS ws, i64 (.o x.den)]) (fun R vs ha => by
   match vs, ha with
   | [v, w], ha => exact ⟨ha.1, ha.2.1, trivial⟩) ?_
  intro A hs
  exact rdepth_con x.den m A ⟨fun p hp => hq p hp, hs⟩
 ·rename_i ws x; cases h
  refine Con.asked fun hq => Con.args (l' := [wtS ws, i64 (.o x.den)]) (fun R vs ha => by
   match vs, ha with
   | [v, w], ha => exact ⟨ha.1, ha.2.1, trivial⟩) ?_
  intro A hs
  exact rroot_con x.den m A ⟨fun p hp => hq p hp, hs⟩
 ·exact conI2_ok ts _ _ _ _ h
theorem EI3_ok (ts : Array Value) : EnvOk (EI3 ts) := EnvOk.with E0_ok _ _ (conI3_ok ts)
theorem EI3z_ok (ts : Array Value) : EnvOk (EI3z ts) := EnvOk.with E0_ok _ _ (conI3_ok ts)
section
variable {ts ws : Array Value} {h : Int}
theorem out_ab (hf : FIn ts) (a h : Int) : outF ts a h = (gdF ts a && (gdF ts h && ((a == h) || abF ts a h))) := by
 have hb := hf.ok
 unfold outF abF
 cases hg : gdF ts h with
 | false => simp
 | true =>
  have hx := (lv_mem hb).2 hg
  rw [ch_cons hf.fo hx]
  by_cases m : a ∈ h :: chL (upF ts) (upF ts h)
  ·have ha : gdF ts a = true := (lv_mem hb).1 (ch_sub hf.fo h (.inr hx) a (by rw [ch_cons hf.fo hx]; exact m))
   rw [decide_eq_true m, ha]
   rcases List.mem_cons.1 m with e | e
   ·rw [beq_iff_eq.2 e]; rfl
   ·rw [decide_eq_true e, Bool.or_true]; rfl
  ·rw [decide_eq_false m]
   rw [List.mem_cons, not_or] at m
   rw [beq_eq_false_iff_ne.2 m.1, decide_eq_false m.2]
   simp
theorem rout_con (a h : Int) (m : SMem) : Con E0 19 [wtS ws, i64 (.o a), i64 (.o h)] m (needs [SW ts ws, FIn ts] (.ret (sB (.o (outF ts a h))) m)) := by
 refine Con.pure E0_ok (by kernel_rfl : E0.fn 19 = some Tryd.f19) (by kernel_rfl : Tryd.f19.body = some (Tryd.f19.body.getD .skip)) (by kernel_rfl) (by kernel_rfl) fun hq => ?_
 have w : SW ts ws := hq _ (by simp)
 have hf : FIn ts := hq _ (by simp)
 have hb := hf.ok
 have hz := w.sz
 refine (Good.ret [] (run_vc (EI3_ok ts) 1000 (wou0 ts ws a h (outF ts a h)) ?_ (fun s m h => h) fun _ _ h => h.elim)).mono fun _ _ h => h.1
 rw [out_ab hf]
 cases ga : gdF ts a <;> cases gh : gdF ts h <;> cases e : (a == h)
 all_goals simp only [hz, w, hb, hf, ga, gh, e, beqT, beqF, Bool.true_and, Bool.false_and, Bool.and_true, Bool.and_false, Bool.true_or, Bool.false_or, Bool.not_true, Bool.not_false, or_true, q6]
theorem wkZS_good {n : Nat} {rs : Array Value} {A : SV → SMem → Prop} {QZ : Int → Prop} {QS : Int → Nat → Array Value → Prop} {fs : List SFr} {m : SMem} (hz : ∀ i, QZ i → Good Tryd.prog A 0 (wkZ_F ws h n rs i) (wkZ_M ws h n rs i)) (hs : ∀ i k cs, QS i k cs → Good Tryd.prog A 0 (wkS_F ws h n rs i k cs) (wkS_M ws h n rs i k cs)) (hb : wkZS ws h n rs QZ QS fs m) : Good Tryd.prog A 0 fs m := by
 unfold wkZS at hb
 split at hb
 ·split at hb
  ·exact wkS_good hs hb
  ·exact wkZ_good hz hb
 ·exact hb.elim
theorem wkS_ok (w : SW ts ws) (hb : TbOk ts) (hg : gdF ts h = true) : ∀ (k i : Nat), i + k = (lvT ts).length → Good Tryd.prog (freshA (kdP ts h (lvT ts).length).length (i64s (kdP ts h (lvT ts).length)) 3) 0 (wkS_F ws h (lvT ts).length (i64s (lvT ts)) (i : Int) (kdP ts h i).length (i64s (kdP ts h i))) (wkS_M ws h (lvT ts).length (i64s (lvT ts)) (i : Int) (kdP ts h i).length (i64s (kdP ts h i))) := by
 have hz := w.sz
 have hlen := lv_len ts
 intro k
 induction k with
 | zero =>
  intro i hi
  obtain rfl : i = (lvT ts).length := by omega
  refine past_vc (EI3_ok ts) 1000 (wksF ts ws h _ _ _ _ _ (kdP ts h (lvT ts).length).length (i64s (kdP ts h (lvT ts).length)) (fun _ _ _ => False)) ?_ (fun _ _ h => h) (fun fs m hb => wkS_good (fun _ _ _ h => h.elim) hb)
  have d : decide (((lvT ts).length : Int) < ((lvT ts).length : Int)) = false := decide_eq_false (by omega)
  simp only [d, q6]
 | succ k ih =>
  intro i hi
  refine past_vc (EI3_ok ts) 1000 (wksF ts ws h _ _ (i : Int) _ _ (kdP ts h (lvT ts).length).length (i64s (kdP ts h (lvT ts).length)) (fun i' k' c' => i' = ((i + 1 : Nat) : Int) ∧ k' = (kdP ts h (i + 1)).length ∧ c' = i64s (kdP ts h (i + 1)))) ?_ (fun _ _ h => h) (fun fs m hb => wkS_good (fun i' k' c' ⟨e1, e2, e3⟩ => by rw [e1, e2, e3]; exact ih (i + 1) (by omega)) hb)
  have hi' : i < (lvT ts).length := by omega
  have d : decide ((i : Int) < ((lvT ts).length : Int)) = true := decide_eq_true (by omega)
  have ei : ari .add .i64 (i : Int) 1 = ((i + 1 : Nat) : Int) := by rw [ari_add, i64_in' (by omega) (by omega)]; omega
  have g1 : IsInt .i64 (i64s (lvT ts)) i := isI_of (i64s_at hi')
  have g2 : intAt (i64s (lvT ts)) i = (lvT ts).getD i 0 := intAt_of (i64s_at hi')
  have hx0 : 0 ≤ (i : Int) := by omega
  have hx1 : (i : Int) < ((lvT ts).length : Int) := by omega
  have hl : (kdP ts h i).length ≤ i := kdP_le i
  have hl1 : (((kdP ts h i).length + 1) * 8 ≤ 140737488355328 ∧ (kdP ts h i).length + 1 ≤ 140737488355328) := ⟨by omega, by omega⟩
  rw [kdP_succ hi']
  cases c : (upF ts ((lvT ts).getD i 0) == h)
  all_goals
   simp only [Int.toNat_natCast, Nat.mul_one, Nat.zero_add, d, ei, g1, g2, hx0, hx1, hz, w, hb, hg, hl1, c, beqT, beqF, i64s_size, i64s_app, List.length_append, List.length_cons, List.length_nil, if_true, if_false, decide_true, wkZ_d0_ok, wkS_d0_ok, q6]
theorem wkZ_s (w : SW ts ws) (hb : TbOk ts) (hg : gdF ts h = true) (hne : kdP ts h (lvT ts).length ≠ []) : ∀ (k i : Nat), i + k = (lvT ts).length → kdP ts h i = [] → Good Tryd.prog (freshA (kdP ts h (lvT ts).length).length (i64s (kdP ts h (lvT ts).length)) 3) 0 (wkZ_F ws h (lvT ts).length (i64s (lvT ts)) (i : Int)) (wkZ_M ws h (lvT ts).length (i64s (lvT ts)) (i : Int)) := by
 have hz := w.sz
 have hlen := lv_len ts
 intro k
 induction k with
 | zero =>
  intro i hi he
  obtain rfl : i = (lvT ts).length := by omega
  exact absurd he hne
 | succ k ih =>
  intro i hi he
  refine past_vc (EI3_ok ts) 1000 (wkzF ts ws h _ _ (i : Int) (kdP ts h (lvT ts).length).length (i64s (kdP ts h (lvT ts).length)) (fun i' => i' = ((i + 1 : Nat) : Int) ∧ kdP ts h (i + 1) = []) (fun i' k' c' => i' = ((i + 1 : Nat) : Int) ∧ k' = (kdP ts h (i + 1)).length ∧ c' = i64s (kdP ts h (i + 1)))) ?_ (fun _ _ h => h) (fun fs m hb' => wkZS_good (fun i' ⟨e1, e2⟩ => by rw [e1]; exact ih (i + 1) (by omega) e2) (fun i' k' c' ⟨e1, e2, e3⟩ => by rw [e1, e2, e3]; exact wkS_ok w hb hg k (i + 1) (by omega)) hb')
  have hi' : i < (lvT ts).length := by omega
  have d : decide ((i : Int) < ((lvT ts).length : Int)) = true := decide_eq_true (by omega)
  have ei : ari .add .i64 (i : Int) 1 = ((i + 1 : Nat) : Int) := by rw [ari_add, i64_in' (by omega) (by omega)]; omega
  have g1 : IsInt .i64 (i64s (lvT ts)) i := isI_of (i64s_at hi')
  have g2 : intAt (i64s (lvT ts)) i = (lvT ts).getD i 0 := intAt_of (i64s_at hi')
  have hx0 : 0 ≤ (i : Int) := by omega
  have hx1 : (i : Int) < ((lvT ts).length : Int) := by omega
  rw [kdP_succ hi', he]
  cases c : (upF ts ((lvT ts).getD i 0) == h)
  all_goals
   simp only [Int.toNat_natCast, Nat.mul_one, Nat.zero_add, d, ei, g1, g2, hx0, hx1, hz, w, hb, hg, c, beqT, beqF, i64s_one, List.nil_append, List.length_cons, List.length_nil, if_true, if_false, decide_true, wkZ_d0_ok, wkS_d0_ok, q6]
theorem wkZ_nn (w : SW ts ws) (hb : TbOk ts) (hne : kdF ts h = []) : ∀ (k i : Nat), i + k = (lvT ts).length → Good Tryd.prog nilK 0 (wkZ_F ws h (lvT ts).length (i64s (lvT ts)) (i : Int)) (wkZ_M ws h (lvT ts).length (i64s (lvT ts)) (i : Int)) := by
 have hz := w.sz
 have hlen := lv_len ts
 intro k
 induction k with
 | zero =>
  intro i hi
  obtain rfl : i = (lvT ts).length := by omega
  refine past_vc (EI3_ok ts) 1000 (wkzN ts ws h _ _ _ (fun _ => False) (fun _ _ _ => False)) ?_ (fun _ _ h => h) (fun fs m hb => wkZS_good (fun _ h => h.elim) (fun _ _ _ h => h.elim) hb)
  have d : decide (((lvT ts).length : Int) < ((lvT ts).length : Int)) = false := decide_eq_false (by omega)
  simp only [d, q6]
 | succ k ih =>
  intro i hi
  refine past_vc (EI3_ok ts) 1000 (wkzN ts ws h _ _ (i : Int) (fun i' => i' = ((i + 1 : Nat) : Int)) (fun i' k' c' => False)) ?_ (fun _ _ h => h) (fun fs m hb' => wkZS_good (fun i' e1 => by rw [e1]; exact ih (i + 1) (by omega)) (fun _ _ _ h => h.elim) hb')
  have hi' : i < (lvT ts).length := by omega
  have d : decide ((i : Int) < ((lvT ts).length : Int)) = true := decide_eq_true (by omega)
  have ei : ari .add .i64 (i : Int) 1 = ((i + 1 : Nat) : Int) := by rw [ari_add, i64_in' (by omega) (by omega)]; omega
  have g1 : IsInt .i64 (i64s (lvT ts)) i := isI_of (i64s_at hi')
  have g2 : intAt (i64s (lvT ts)) i = (lvT ts).getD i 0 := intAt_of (i64s_at hi')
  have hx0 : 0 ≤ (i : Int) := by omega
  have hx1 : (i : Int) < ((lvT ts).length : Int) := by omega
  cases hg : gdF ts h with
  | false =>
   simp only [Int.toNat_natCast, Nat.mul_one, Nat.zero_add, d, ei, g1, g2, hx0, hx1, hz, w, hb, hg, beqT, beqF, decide_true, wkZ_d0_ok, wkS_d0_ok, q6]
  | true =>
   have ha := kdP_all hg
   have he := kdP_pre (h := h) (i := i + 1) (Nat.le_refl _) (by omega) (ha.trans hne)
   have c : (upF ts ((lvT ts).getD i 0) == h) = false := by
    rw [kdP_succ hi'] at he
    split at he
    ·simp at he
    ·rename_i k; simpa using k
   simp only [Int.toNat_natCast, Nat.mul_one, Nat.zero_add, d, ei, g1, g2, hx0, hx1, hz, w, hb, hg, c, beqT, beqF, decide_true, wkZ_d0_ok, wkS_d0_ok, q6]
theorem rkids_con (h : Int) (m : SMem) : Con E0 11 [wtS ws, i64 (.o h)] m (.need [SW ts ws, TbOk ts] (rowW (kdF ts h) m)) := by
 refine Con.asked fun hq => ?_
 have w : SW ts ws := hq _ (by simp)
 have hb : TbOk ts := hq _ (by simp)
 have hs := w.sz
 refine Con.two (fun hz => ?_) (fun hz => ?_)
 ·have he : kdF ts h = [] := List.eq_nil_of_length_eq_zero (of_decide_eq_true hz)
  refine (show Con E0 11 [wtS ws, i64 (.o h)] m (needs [] _) from Con.pure E0_ok (by kernel_rfl : E0.fn 11 = some Tryd.f11) (by kernel_rfl : Tryd.f11.body = some (Tryd.f11.body.getD .skip)) (by kernel_rfl) (by kernel_rfl) fun hq => ?_)
  refine Good.mono (A := nilK) ?_ ?_
  ·cases c : decide ((lvT ts).length = 0) with
   | true =>
    refine run_vc (EI3z_ok ts) 1000 (wk0E ts ws h) ?_ (fun s m h => h) fun fs m hm => hm.elim
    simp only [c, hs, w, hb, true_implies, Bool.true_eq_false, false_implies, and_true, true_and]
   | false =>
    refine run_vc (EI3_ok ts) 1000 (wk0N ts ws h (lvT ts).length (i64s (lvT ts)) (fun i => i = ((0 : Nat) : Int))) ?_ (fun s m h => h.elim) fun fs m hm => wkZ_good (fun i e => by rw [e]; exact wkZ_nn w hb he (lvT ts).length 0 (by omega)) hm
    simp only [c, hs, w, hb, true_implies, Bool.false_eq_true, false_implies, and_true, true_and, wkZ_d0_ok]
    rfl
  ·intro s m' hs
   unfold nilK at hs
   split at hs
   ·rfl
   ·exact hs.elim
 ·have hne : kdF ts h ≠ [] := fun e => by
   have := of_decide_eq_false hz
   rw [e] at this
   exact this rfl
  have hg : gdF ts h = true := by
   cases c : gdF ts h with
   | true => rfl
   | false => exact absurd (by unfold kdF; rw [c]; rfl) hne
  have ha := kdP_all hg
  have hl : (lvT ts).length ≠ 0 := by
   intro e
   have e0 := List.eq_nil_of_length_eq_zero e
   have hne2 := hne
   rw [← ha] at hne2
   apply hne2
   unfold kdP
   rw [e0]
   rfl
  have c : decide ((lvT ts).length = 0) = false := decide_eq_false hl
  refine (show Con E0 11 [wtS ws, i64 (.o h)] m (needs [] _) from Con.fresh E0_ok (by kernel_rfl : E0.fn 11 = some Tryd.f11) (by kernel_rfl : Tryd.f11.body = some (Tryd.f11.body.getD .skip)) (by kernel_rfl) rfl fun _ => ?_)
  refine Good.retX ((run_vc (EI3_ok ts) 1000 (wk0N ts ws h (lvT ts).length (i64s (lvT ts)) (fun i => i = ((0 : Nat) : Int))) ?_ (fun s m h => h.elim) fun fs m hm => wkZ_good (A := freshA (kdF ts h).length (i64s (kdF ts h)) 3) (fun i e => by rw [e, ← ha]; exact wkZ_s w hb hg (by rw [ha]; exact hne) (lvT ts).length 0 (by omega) rfl) hm).mono fun s m h => ?_)
  ·simp only [c, hs, w, hb, true_implies, Bool.false_eq_true, false_implies, and_true, true_and, wkZ_d0_ok]
   rfl
  ·unfold freshA at h
   split at h
   ·exact ⟨_, h⟩
   ·exact h.elim
end
theorem fr_eq {vs bs : Array Value} (h : ∀ i, i < 32 → knW vs i = kindAt bs i) : ∀ k i, i + k = 32 → frW vs k i = freeFrom bs k i
 | 0, _, _ => rfl
 | k + 1, i, e => by
  show (if knW vs i = 0 then some i else frW vs k (i + 1)) = _
  rw [freeFrom_succ, h i (by omega), fr_eq h k (i + 1) (by omega)]
theorem SW.fr (w : SW ts ws) : frW (ws.extract 0 64) 32 0 = freeS (bkB ts) := fr_eq (fun i hi => w.kn hi) 32 0 rfl
theorem SW.iss0 (w : SW ts ws) (e : freeS (bkB ts) = none) : isW (ws.extract 0 64) = ws.extract 0 64 ∧ iiW (ws.extract 0 64) = 0 := by
 unfold isW iiW
 rw [w.fr, e]
 exact ⟨rfl, rfl⟩
theorem SW.iss1 (w : SW ts ws) (hb : TbOk ts) {i : Nat} (hi : i < 32) (e : freeS (bkB ts) = some i) : isW (ws.extract 0 64) = (ws.extract 0 64).setIfInBounds (32 + i) (.int .i64 1) ∧ iiW (ws.extract 0 64) = nameI i (ageAt (bkB ts) i) ∧ WB (isW (ws.extract 0 64)) ∧ slW (isW (ws.extract 0 64)) (iiW (ws.extract 0 64)) = (i : Int) := by
 have wb := w.wb hb
 have e1 : isW (ws.extract 0 64) = (ws.extract 0 64).setIfInBounds (32 + i) (.int .i64 1) := by unfold isW; rw [w.fr, e]; rfl
 have e2 : iiW (ws.extract 0 64) = nameI i (ageAt (bkB ts) i) := by
  unfold iiW
  rw [w.fr, e]
  show nameI i (gnW (ws.extract 0 64) i) = _
  rw [w.gn hi]
 obtain ⟨s1, s2, s3⟩ := set_kn (x := 1) wb hi ⟨by decide, by decide⟩
 refine ⟨e1, e2, by rw [e1]; exact s1, ?_⟩
 rw [e1, e2]
 refine slFrom_of (k := i) (fun j hj c => ?_) ⟨by rw [s3 i hi, if_pos rfl], by rw [s2 i hi, w.gn hi]⟩ 32 0 rfl (Nat.zero_le _) hi
 rw [s2 j hj, w.gn hj] at c
 exact (name_inj hj hi c.2).1
def nwW (ts ws : Array Value) (u q : Int) : Array Value := if newE ts u q = 0 then putAt (putAt ws 0 (isW (ws.extract 0 64)).toList) (64 + sl (issueI (bkB ts)) * 12) [.int .i64 u, .int .i64 q, .slice none 0 0, .int .i64 0, .int .i64 0, .int .i64 0, .int .i64 0, .int .i64 0, .int .i64 0, .int .i64 0, .int .i64 0, .int .i64 0] else ws
theorem rnew_con (u q : Int) (m : SMem) : Con E0 60 [wtS ws, i64 (.o u), i64 (.o q)] m (needs [SW ts ws, TbOk ts] (.ret (.tup [.agg (.op (nwW ts ws u q)), .c (.f (.int .i64 (.o (newI ts u q)))), .c (.f (.int .i64 (.o (newE ts u q))))]) m)) := by
 refine Con.pure E0_ok (by kernel_rfl : E0.fn 60 = some Tryd.f60) (by kernel_rfl : Tryd.f60.body = some (Tryd.f60.body.getD .skip)) (by kernel_rfl) (by kernel_rfl) fun hq => ?_
 refine (Good.ret [] (run_vc EI1_ok 1000 (nw0 ws u q (nwW ts ws u q) (newI ts u q) (newE ts u q)) ?_ (fun s m h => h) fun _ _ h => h.elim)).mono fun _ _ h => h.1
 unfold nw0_0
 have h64 : (64 : Nat) ≤ 448 := by decide
 have wb := w.wb hb
 have es := w.slot hb u
 have key : ∀ e, newE ts u q = e → e ≠ 0 → nwW ts ws u q = ws ∧ newI ts u q = 0 := fun e h1 h2 => by
  constructor
  ·unfold nwW; rw [if_neg (by rw [h1]; exact h2)]
  ·unfold newI; rw [if_neg (by rw [h1]; exact h2)]
 by_cases c0 : u ≠ 0 ∧ gdF ts u = false
 ·have d0 : (u != 0) = true := bne_iff_ne.2 c0.1
  have d1 : decide (slW (ws.extract 0 64) u ≥ 0) = false := decide_eq_false (by rw [es, if_neg (by rw [c0.2]; decide)]; omega)
  have e : newE ts u q = 4 := by unfold newE; rw [if_pos c0]
  obtain ⟨k1, k2⟩ := key 4 e (by decide)
  simp only [d0, d1, e, k1, k2, hz, h64, wb, beqT, beqF, Bool.not_false, Bool.not_true, q6]
 ·have fin : (u != 0) = false ∨ ((u != 0) = true ∧ decide (slW (ws.extract 0 64) u ≥ 0) = true) := by
   by_cases z : u = 0
   ·left; rw [z]; rfl
   ·right
    have g : gdF ts u = true := by
     cases g : gdF ts u with
     | true => rfl
     | false => exact absurd ⟨z, g⟩ c0
    exact ⟨bne_iff_ne.2 z, decide_eq_true (by rw [es, if_pos g]; omega)⟩
  by_cases c1 : 0 ≤ q ∧ q ≤ 64
  ·have d2 : decide (q < 0) = false := decide_eq_false (by omega)
   have d3 : decide (q > 64) = false := decide_eq_false (by omega)
   rcases issue_cases (bs := bkB ts) with ⟨f1, _, f3, f4⟩ | ⟨i, h1, h2, g1, g2, g3, g4⟩
   ·obtain ⟨n1, n2⟩ := w.iss0 f1
    have e : newE ts u q = 7 := by unfold newE; rw [if_neg c0, if_pos c1, f4]; rfl
    obtain ⟨k1, k2⟩ := key 7 e (by decide)
    have d4 : (iiW (ws.extract 0 64) == 0) = true := by rw [n2]; rfl
    have sz := wb.sz
    rcases fin with d0 | ⟨d0, d1⟩
    ·simp only [d0, d2, d3, d4, n1, e, k1, k2, sz, hz, h64, wb, beqT, beqF, Bool.not_false, Bool.not_true, q6]
    ·simp only [d0, d1, d2, d3, d4, n1, e, k1, k2, sz, hz, h64, wb, beqT, beqF, Bool.not_false, Bool.not_true, q6]
   ·obtain ⟨n1, n2, n3, n4⟩ := w.iss1 hb h1 g4
    have e : newE ts u q = 0 := by unfold newE; rw [if_neg c0, if_pos c1, g3]; rfl
    have hr := hb.bk.ra i h1
    have esl : sl (issueI (bkB ts)) = i := by rw [g2]; exact slotI_name h1 hr
    have d4 : (iiW (ws.extract 0 64) == 0) = false := beq_eq_false_iff_ne.2 (by rw [n2]; unfold nameI; omega)
    have sz := n3.sz
    have k1 : nwW ts ws u q = putAt (putAt ws 0 (isW (ws.extract 0 64)).toList) (64 + i * 12) [.int .i64 u, .int .i64 q, .slice none 0 0, .int .i64 0, .int .i64 0, .int .i64 0, .int .i64 0, .int .i64 0, .int .i64 0, .int .i64 0, .int .i64 0, .int .i64 0] := by unfold nwW; rw [if_pos e, esl]
    have k2 : newI ts u q = iiW (ws.extract 0 64) := by unfold newI; rw [if_pos e, n2, g2]
    have y0 : (0 : Int) ≤ (i : Int) := by omega
    have y1 : (i : Int) < 32 := by omega
    have z1 : (putAt ws 0 (isW (ws.extract 0 64)).toList).size = 448 := by rw [putAt_size (by rw [Array.length_toList, sz, hz]; decide)]; exact hz
    have z2 : 64 + i * 12 + 12 ≤ 448 := by omega
    have z3 : (putAt (putAt ws 0 (isW (ws.extract 0 64)).toList) (64 + i * 12) [.int .i64 u, .int .i64 q, .slice none 0 0, .int .i64 0, .int .i64 0, .int .i64 0, .int .i64 0, .int .i64 0, .int .i64 0, .int .i64 0, .int .i64 0, .int .i64 0]).size = 448 := by
     rw [putAt_size (by rw [z1]; exact z2)]; exact z1
    have zl : ∀ a0 a1 a2 a3 a4 a5 a6 a7 a8 a9 b0 b1 : Value, List.length [a0, a1, a2, a3, a4, a5, a6, a7, a8, a9, b0, b1] = 12 := fun _ _ _ _ _ _ _ _ _ _ _ _ => rfl
    have z4 : 0 + 64 ≤ 448 := by decide
    rcases fin with d0 | ⟨d0, d1⟩
    ·simp only [d0, d2, d3, d4, n3, n4, e, k1, k2, sz, hz, h64, wb, y0, y1, z1, z2, z3, z4, zl, Int.toNat_natCast, beqT, beqF, Bool.not_false, Bool.not_true, decide_true, q6]
    ·simp only [d0, d1, d2, d3, d4, n3, n4, e, k1, k2, sz, hz, h64, wb, y0, y1, z1, z2, z3, z4, zl, Int.toNat_natCast, beqT, beqF, Bool.not_false, Bool.not_true, decide_true, q6]
  ·have e : newE ts u q = 2 := by unfold newE; rw [if_neg c0, if_neg c1]
   obtain ⟨k1, k2⟩ := key 2 e (by decide)
   by_cases c2 : q < 0
   ·have d2 : decide (q < 0) = true := decide_eq_true c2
    rcases fin with d0 | ⟨d0, d1⟩
    ·simp only [d0, d2, e, k1, k2, hz, h64, wb, beqT, beqF, Bool.not_false, Bool.not_true, q6]
    ·simp only [d0, d1, d2, e, k1, k2, hz, h64, wb, beqT, beqF, Bool.not_false, Bool.not_true, q6]
   ·have d2 : decide (q < 0) = false := decide_eq_false c2
    have d3 : decide (q > 64) = true := decide_eq_true (by omega)
    rcases fin with d0 | ⟨d0, d1⟩
    ·simp only [d0, d2, d3, e, k1, k2, hz, h64, wb, beqT, beqF, Bool.not_false, Bool.not_true, q6]
    ·simp only [d0, d1, d2, d3, e, k1, k2, hz, h64, wb, beqT, beqF, Bool.not_false, Bool.not_true, q6]
theorem rwA_eq {u q u' q' : Int} {c d : Nat → Int} (h1 : u = u') (h2 : q = q') (h : ∀ k, k < 8 → c k = d k) : rwA u q c = rwA u' q' d := by
 unfold rwA
 rw [h1, h2, h 0 (by decide), h 1 (by decide), h 2 (by decide), h 3 (by decide), h 4 (by decide), h 5 (by decide), h 6 (by decide), h 7 (by decide)]
theorem ne_0 {u q : Int} (e : newE ts u q = 0) : (u = 0 ∨ gdF ts u = true) ∧ (0 ≤ q ∧ q ≤ 64) ∧ issueOk (bkB ts) = true := by
 unfold newE at e
 split at e
 ·exact absurd e (by decide)
 rename_i n2
 split at e
 rotate_left
 ·exact absurd e (by decide)
 rename_i hq
 split at e
 rotate_left
 ·exact absurd e (by decide)
 rename_i ho
 refine ⟨?_, hq, ho⟩
 by_cases c : u = 0
 ·exact .inl c
  cases d : gdF ts u with
  | false => exact absurd ⟨c, d⟩ n2
theorem nw_up (hv : FV ts) {u q : Int} (hu : inH u) (e : newE ts u q = 0) : upF (nwT ts u q) (issueI (bkB ts)) = u ∧ ∀ x, gdF ts x = true → upF (nwT ts u q) x = upF ts x := by
 obtain ⟨hu2, hq, ho⟩ := ne_0 e
 have hb := hv.f.ok
 obtain ⟨r1, r2, r3, r4, r5⟩ := nw_f hb ho (u := u) (q := q) hu hq
 obtain ⟨i1, i2, _⟩ := iss_new hb ho
 ·have g : gdF (nwT ts u q) (issueI (bkB ts)) = true := by rw [r3, decide_eq_true rfl, Bool.or_true]
  unfold upF
  rw [if_pos g, r4.1]
  rcases hu2 with c | c
  ·rw [c]; split <;> rfl
  ·rw [if_pos (by rw [r3, c]; rfl)]
 ·intro x g
  have g' : gdF (nwT ts u q) x = true := by rw [r3, g]; rfl
  have hne : upR ts x ≠ issueI (bkB ts) := fun k => by
   rcases hv.o x g with c | c
   ·exact i2 (k.symm.trans c)
   ·rw [k] at c
    exact (used_new hb.bk ho).2 c
  unfold upF
  rw [if_pos g, if_pos g', (r5 x g).1, r3, decide_eq_false hne, Bool.or_false]
theorem SW.new (w : SW ts ws) (hv : FV ts) {u q : Int} (hu : inH u) (e : newE ts u q = 0) : SW (nwT ts u q) (nwW ts ws u q) := by
 obtain ⟨hu2, hq, ho⟩ := ne_0 e
 have hb := hv.f.ok
 obtain ⟨p1, p2⟩ := nw_up hv hu e
 obtain ⟨r1, r2, r3, r4, r5⟩ := nw_f hb ho (u := u) (q := q) hu hq
 rcases issue_cases (bs := bkB ts) with ⟨_, _, _, f4⟩ | ⟨i, h1, h2, g1, g2, g3, g4⟩
 ·rw [ho] at f4; cases f4
 obtain ⟨n1, n2, n3, n4⟩ := w.iss1 hb h1 g4
 have hbs := hb.bk.sz
 have z0 : 0 + (isW (ws.extract 0 64)).toList.length ≤ ws.size := by rw [Array.length_toList, sz, hz]; decide
 have z1 : (putAt ws 0 (isW (ws.extract 0 64)).toList).size = 448 := by rw [putAt_size z0]; exact hz
 have ew : nwW ts ws u q = putAt (putAt ws 0 (isW (ws.extract 0 64)).toList) (64 + i * 12) (rwA u q fun _ => 0).toList := by unfold nwW; rw [if_pos e, esl]; rfl
 have zl : (rwA u q fun _ => 0).toList.length = 12 := rfl
 have z2 : 64 + i * 12 + (rwA u q fun _ => 0).toList.length ≤ (putAt ws 0 (isW (ws.extract 0 64)).toList).size := by rw [zl, z1]; omega
 have ll : (isW (ws.extract 0 64)).toList.length = 64 := by rw [Array.length_toList, sz]
 have low : ∀ j, j < 64 → (nwW ts ws u q)[j]? = if j = 32 + i then some (.int .i64 1) else ws[j]? := fun j hj => by
  rw [ew, putAt_out z2 (.inl (by omega)), putAt_in z0 (Nat.zero_le _) (by omega), Nat.sub_zero, Array.getElem?_toList, n1, Array.getElem?_setIfInBounds]
  by_cases c : 32 + i = j
  ·rw [if_pos c, if_pos c.symm, if_pos (by rw [ext_size (by omega)]; omega)]
  ·rw [if_neg c, if_neg (fun k => c k.symm), w.bk hj]
 have mid : ∀ j k, j < 32 → k < 12 → (nwW ts ws u q)[64 + j * 12 + k]? = if j = i then (rwA u q fun _ => 0)[k]? else ws[64 + j * 12 + k]? := fun j k hj hk => by
  rw [ew]
  by_cases c : j = i
  ·rw [if_pos c, putAt_in z2 (by omega) (by rw [zl]; omega), Array.getElem?_toList, c]
   congr 1
   omega
  ·rw [if_neg c, putAt_out z2 (by rw [zl]; omega), putAt_out z0 (by rw [ll]; omega)]
 have ea : ∀ j, ageAt (bkB (nwT ts u q)) j = ageAt (bkB ts) j := fun j => by rw [r2, g1, age_set]
 have ek : ∀ j, kindAt (bkB (nwT ts u q)) j = if j = i then 1 else kindAt (bkB ts) j := fun j => by rw [r2, g1, kind_set hbs h1]
 have en : ∀ j, nmF (nwT ts u q) j = nmF ts j := fun j => by unfold nmF; rw [ea]
 refine ⟨by rw [ew, putAt_size z2]; exact z1, fun j hj => ?_, fun j hj => ?_, fun j hj hk c hc => ?_, fun j hj hk c hc => ?_⟩
 ·rw [low j (by omega), if_neg (by omega), ea]
  exact w.g j hj
 ·rw [low (32 + j) (by omega), ek]
  by_cases c : j = i
  ·rw [if_pos (by omega), if_pos c]
  ·rw [if_neg (by omega), if_neg c]
   exact w.s j hj
 ·rw [mid j c hj hc, en]
  by_cases d : j = i
  ·rw [if_pos d]
   have em : nmF ts j = issueI (bkB ts) := by rw [g2, d]; rfl
   have er : rwF (nwT ts u q) (issueI (bkB ts)) = rwA u q fun _ => 0 := rwA_eq p1 r4.2.1 fun k hk => r4.2.2 k hk
   rw [em, er]
  ·rw [if_neg d]
   rw [ek, if_neg d] at hk
   have gx : gdF ts (nmF ts j) = true := (goodB_iff hb.bk).2 ⟨j, hj, hk, rfl⟩
   have er : rwF (nwT ts u q) (nmF ts j) = rwF ts (nmF ts j) := rwA_eq (p2 _ gx) (r5 _ gx).2.1 fun k hk => (r5 _ gx).2.2 k hk
   rw [er]
   exact w.r j hj hk c hc
 ·rw [ek] at hk
  by_cases d : j = i
  ·rw [if_pos d] at hk
   exact absurd rfl hk
  ·rw [if_neg d] at hk
   rw [mid j c hj hc, if_neg d]
   exact w.z j hj hk c hc
noncomputable def conI4 (ts : Array Value) (g : FuncId) (l : List SV) (m : SMem) : Option Tree := match g, l with
 | 60, [.s (.agg (.op ws)), .s (.c (.f (.int .i64 u))), .s (.c (.f (.int .i64 q)))] => some (.need [SW ts ws, TbOk ts] (.ret (.tup [.agg (.op (nwW ts ws u.den q.den)), .c (.f (.int .i64 (.o (newI ts u.den q.den)))), .c (.f (.int .i64 (.o (newE ts u.den q.den))))]) m))
 | g, l => conI3 ts g l m
noncomputable def EI4 (ts : Array Value) : Env := ⟨Tryd.prog, fnOf, conI4 ts, haltAt []⟩
noncomputable def rn0_0 (ts : Array Value) (ws : Array Value) (u : Int) (q : Int) (o : Array Value) (h : Int) (e : Int) : Prop := (decide (q ≥ 0) == true) = true → ((decide (q ≤ 64) == true) = true → (Array.size ws = 448 ∧ True) ∧ (SW ts ws ∧ FIn ts ∧ True) ∧ (decide ((↑(depF ts u) : Int) > 5) = true → (Array.size ws = 448 ∧ True) ∧ (Array.size ws = 448 ∧ Array.size ws = 448 ∧ True) ∧ (Array.size ws = 448 ∧ True) ∧ o = ws ∧ h = 0 ∧ e = 8 ∧ True) ∧ (decide ((↑(depF ts u) : Int) > 5) = false → (Array.size ws = 448 ∧ True) ∧ (SW ts ws ∧ TbOk ts ∧ True) ∧ (Array.size (nwW ts ws u q) = 448 ∧ Array.size (nwW ts ws u q) = 448 ∧ True) ∧ (Array.size (nwW ts ws u q) = 448 ∧ True) ∧ o = nwW ts ws u q ∧ h = newI ts u q ∧ e = newE ts u q ∧ True)) ∧ ((decide (q ≤ 64) == true) = false → (Array.size ws = 448 ∧ True) ∧ (SW ts ws ∧ TbOk ts ∧ True) ∧ (Array.size (nwW ts ws u q) = 448 ∧ Array.size (nwW ts ws u q) = 448 ∧ True) ∧ (Array.size (nwW ts ws u q) = 448 ∧ True) ∧ o = nwW ts ws u q ∧ h = newI ts u q ∧ e = newE ts u q ∧ True)
noncomputable def rn0_1 (ts : Array Value) (ws : Array Value) (u : Int) (q : Int) (o : Array Value) (h : Int) (e : Int) : Prop := (decide (q ≥ 0) == true) = false → (Array.size ws = 448 ∧ True) ∧ (SW ts ws ∧ TbOk ts ∧ True) ∧ (Array.size (nwW ts ws u q) = 448 ∧ Array.size (nwW ts ws u q) = 448 ∧ True) ∧ (Array.size (nwW ts ws u q) = 448 ∧ True) ∧ o = nwW ts ws u q ∧ h = newI ts u q ∧ e = newE ts u q ∧ True
theorem rn0 (ts ws : Array Value) (u q : Int) (o : Array Value) (h e : Int) : (run (EI4 ts) 1000 0 [callFr 34 Tryd.f34.ntmps [wtS ws, i64 (.o u), i64 (.o q)] (Tryd.f34.body.getD .skip)] e0M).vc (whA o h e) (fun _ _ => False) =
  ((((u == 0) == false) = true → (Array.size ws = 448 ∧ True) ∧ (SW ts ws ∧ TbOk ts ∧ True) ∧ ((gdF ts u == true) = true → (rn0_0 ts ws u q o h e) ∧ (rn0_1 ts ws u q o h e)) ∧ ((gdF ts u == true) = false → (Array.size ws = 448 ∧ True) ∧ (SW ts ws ∧ TbOk ts ∧ True) ∧ (Array.size (nwW ts ws u q) = 448 ∧ Array.size (nwW ts ws u q) = 448 ∧ True) ∧ (Array.size (nwW ts ws u q) = 448 ∧ True) ∧ o = nwW ts ws u q ∧ h = newI ts u q ∧ e = newE ts u q ∧ True)) ∧ (((u == 0) == false) = false → (rn0_0 ts ws u q o h e) ∧ (rn0_1 ts ws u q o h e))) := by kernel_rfl
theorem conI4_ok (ts : Array Value) : ∀ g l m t, conI4 ts g l m = some t → Con E0 g l m t := by
 unfold conI4 at h
 ·rename_i ws u q; cases h
  refine Con.asked fun hq => Con.args (l' := [wtS ws, i64 (.o u.den), i64 (.o q.den)]) (fun R vs ha => by
  exact rnew_con u.den q.den m A ⟨fun p hp => hq p hp, hs⟩
 ·exact conI3_ok ts _ _ _ _ h
theorem EI4_ok (ts : Array Value) : EnvOk (EI4 ts) := EnvOk.with E0_ok _ _ (conI4_ok ts)
def fnW (ts ws : Array Value) (u q : Int) : Array Value := if fnE ts u q = 0 then nwW ts ws u q else ws
theorem SW.fnew (w : SW ts ws) (hv : FV ts) {u q : Int} (hu : inH u) : SW (fnT ts u q) (fnW ts ws u q) := by
 unfold fnT fnW
 ·rename_i e
  refine w.new hv hu ?_
  unfold fnE at e
  split at e
  ·exact absurd e (by decide)
  ·exact e
theorem lim_iff (u q : Int) : (newE ts u q = 0 ∨ newE ts u q = 7) ↔ ((u = 0 ∨ gdF ts u = true) ∧ 0 ≤ q ∧ q ≤ 64) := by
 ·intro h
  unfold newE at h
  ·omega
  ·rename_i n
   ·rename_i hq
    refine ⟨?_, hq⟩
    by_cases c : u = 0
    ·exact .inl c
    ·right
     cases d : gdF ts u with
     | false => exact absurd ⟨c, d⟩ n
   ·omega
 ·rintro ⟨h1, h2⟩
  unfold newE
  rw [if_neg (fun k => h1.elim k.1 fun g => by rw [k.2] at g; cases g), if_pos h2]
  ·exact .inl rfl
  ·exact .inr rfl
theorem rfnew_con (u q : Int) (m : SMem) : Con E0 34 [wtS ws, i64 (.o u), i64 (.o q)] m (needs [SW ts ws, FV ts, inH u] (.ret (.tup [.agg (.op (fnW ts ws u q)), .c (.f (.int .i64 (.o (fnI ts u q)))), .c (.f (.int .i64 (.o (fnE ts u q))))]) m)) := by
 refine Con.pure E0_ok (by kernel_rfl : E0.fn 34 = some Tryd.f34) (by kernel_rfl : Tryd.f34.body = some (Tryd.f34.body.getD .skip)) (by kernel_rfl) (by kernel_rfl) fun hq => ?_
 have hv : FV ts := hq _ (by simp)
 have hu : inH u := hq _ (by simp)
 have hf := hv.f
 refine (Good.ret [] (run_vc (EI4_ok ts) 1000 (rn0 ts ws u q (fnW ts ws u q) (fnI ts u q) (fnE ts u q)) ?_ (fun s m h => h) fun _ _ h => h.elim)).mono fun _ _ h => h.1
 unfold rn0_1 rn0_0
 have sn : (nwW ts ws u q).size = 448 := by
  by_cases c : newE ts u q = 0
  ·exact (w.new hv hu c).sz
  ·unfold nwW; rw [if_neg c]; exact hz
 by_cases L : ((u = 0 ∨ gdF ts u = true) ∧ 0 ≤ q ∧ q ≤ 64) ∧ 6 ≤ depF ts u
 ·have e : fnE ts u q = 8 := by unfold fnE; rw [if_pos ⟨(lim_iff u q).2 L.1, L.2⟩]
  have e1 : fnW ts ws u q = ws := by unfold fnW; rw [e]; rfl
  have e2 : fnI ts u q = 0 := by unfold fnI; rw [e]; rfl
  obtain ⟨⟨l1, l2, l3⟩, l4⟩ := L
  have d2 : decide (q ≥ 0) = true := decide_eq_true l2
  have d3 : decide (q ≤ 64) = true := decide_eq_true l3
  have d4 : decide ((depF ts u : Int) > 5) = true := decide_eq_true (by omega)
  ·have d0 : (u == 0) = true := beq_iff_eq.2 z
   simp only [d0, d2, d3, d4, e, e1, e2, hz, w, hf, hb, beqT, beqF, Bool.not_true, Bool.not_false, q6]
  ·have d0 : (u == 0) = false := beq_eq_false_iff_ne.2 z
   have d1 := l1.resolve_left z
   simp only [d0, d1, d2, d3, d4, e, e1, e2, hz, w, hf, hb, beqT, beqF, Bool.not_true, Bool.not_false, q6]
 ·have e : fnE ts u q = newE ts u q := by unfold fnE; rw [if_neg (fun k => L ⟨(lim_iff u q).1 k.1, k.2⟩)]
  have e1 : fnW ts ws u q = nwW ts ws u q := by
   unfold fnW
   ·rename_i k; unfold nwW; rw [if_neg k]
  have e2 : fnI ts u q = newI ts u q := by unfold fnI newI; rw [e]
  cases d0 : (u == 0) <;> cases d1 : gdF ts u <;> cases d2 : decide (q ≥ 0) <;> cases d3 : decide (q ≤ 64) <;> cases d4 : decide ((depF ts u : Int) > 5)
  all_goals first
   |(exfalso
     refine L ⟨⟨?_, of_decide_eq_true d2, of_decide_eq_true d3⟩, by have := of_decide_eq_true d4; omega⟩
     first
      | exact .inl (eq_of_beq d0)
      | exact .inr d1)
   | simp only [d0, d1, d2, d3, d4, e, e1, e2, sn, hz, w, hf, hb, beqT, beqF, Bool.not_true, Bool.not_false, q6]
variable {ws : Array Value}
def voW (ws : Array Value) (h : Int) : Array Value := if slW ws h < 0 then ws else if gnW ws (slW ws h).toNat = 8388607 then (ws.setIfInBounds (32 + (slW ws h).toNat) (.int .i64 0)).setIfInBounds (32 + (slW ws h).toNat) (.int .i64 2) else (ws.setIfInBounds (32 + (slW ws h).toNat) (.int .i64 0)).setIfInBounds (slW ws h).toNat (.int .i64 (gnW ws (slW ws h).toNat + 1))
theorem slFrom_lt {vs : Array Value} {h : Int} : ∀ n i, i + n = 32 → slFrom vs h n i < 32
 | 0, i, e => by show (-1 : Int) < 32; decide
 | n + 1, i, e => by
  show (if knW vs i = 1 ∧ nameI i (gnW vs i) = h then (i : Int) else slFrom vs h n (i + 1)) < 32
  ·exact slFrom_lt n (i + 1) (by omega)
theorem rvoid_con (h : Int) (m : SMem) : Con E0 70 [wbS ws, i64 (.o h)] m (needs [WB ws] (.ret (.tup [.agg (.op (voW ws h)), .c (.f (.bool (.o (decide (0 ≤ slW ws h)))))]) m)) := by
 refine Con.pure E0_ok (by kernel_rfl : E0.fn 70 = some Tryd.f70) (by kernel_rfl : Tryd.f70.body = some (Tryd.f70.body.getD .skip)) (by kernel_rfl) (by kernel_rfl) fun hq => ?_
 have hw : WB ws := hq _ (by simp)
 refine (Good.ret [] (run_vc EI1_ok 1000 (vo0 ws h (voW ws h) (decide (0 ≤ slW ws h))) ?_ (fun s m h => h) fun _ _ h => h.elim)).mono fun _ _ h => h.1
 unfold vo0_2 vo0_1 vo0_0
 have hz := hw.sz
 by_cases c : slW ws h < 0
 ·have d : decide (slW ws h < 0) = true := decide_eq_true c
  have e : voW ws h = ws := if_pos c
  have e2 : decide (0 ≤ slW ws h) = false := decide_eq_false (by omega)
  simp only [d, e, e2, hz, hw, q6]
 ·have hlt : slW ws h < 32 := slFrom_lt 32 0 rfl
  have hk : voW ws h = if gnW ws (slW ws h).toNat = 8388607 then (ws.setIfInBounds (32 + (slW ws h).toNat) (.int .i64 0)).setIfInBounds (32 + (slW ws h).toNat) (.int .i64 2) else (ws.setIfInBounds (32 + (slW ws h).toNat) (.int .i64 0)).setIfInBounds (slW ws h).toNat (.int .i64 (gnW ws (slW ws h).toNat + 1)) := if_neg c
  rw [hk]
  generalize eI : slW ws h = x at *
  obtain ⟨i, rfl⟩ : ∃ j : Nat, x = (j : Int) := ⟨x.toNat, by omega⟩
  have hi : i < 32 := by omega
  have y0 : 0 ≤ (i : Int) := by omega
  have d : decide ((i : Int) < 0) = false := decide_eq_false (by omega)
  have e2 : decide (0 ≤ (i : Int)) = true := decide_eq_true y0
  obtain ⟨s1, s2, s3⟩ := set_kn (x := 0) hw hi ⟨by decide, by decide⟩
  have g1 := s1.g i hi
  have g2 : intAt (ws.setIfInBounds (32 + i) (.int .i64 0)) i = gnW ws i := s2 i hi
  have hr := hw.rg i hi
  have y3 : 32 + i < 64 := by omega
  have y4 : i < 64 := by omega
  by_cases k : gnW ws i = 8388607
  ·have d2 : (gnW ws i == 8388607) = true := beq_iff_eq.2 k
   simp only [Int.toNat_natCast, Nat.mul_one, Nat.zero_add, d, d2, e2, if_pos k, y0, hlt, y3, y4, g1, g2, hz, hw, Array.size_setIfInBounds, decide_true, q6]
  ·have d2 : (gnW ws i == 8388607) = false := beq_eq_false_iff_ne.2 k
   have ea : ari .add .i64 (gnW ws i) 1 = gnW ws i + 1 := by rw [ari_add, i64_in' (by omega) (by omega)]
   simp only [Int.toNat_natCast, Nat.mul_one, Nat.zero_add, d, d2, e2, ea, if_neg k, y0, hlt, y3, y4, g1, g2, hz, hw, Array.size_setIfInBounds, decide_true, q6]
noncomputable def conWUn (ts : Array Value) (n : Nat) (g : FuncId) (l : List SV) (m : SMem) : Option Tree := match g, l with
 | 13, [.s (.agg (.op ws)), .s (.c (.f (.int .i64 h)))] => some (.need [SW ts ws, FIn ts, 14 ≤ depF ts h.den + n] (rowW (unT ts h.den) m))
 | 11, [.s (.agg (.op ws)), .s (.c (.f (.int .i64 h)))] => some (.need [SW ts ws, TbOk ts] (rowW (kdF ts h.den) m))
 | 19, [.s (.agg (.op ws)), .s (.c (.f (.int .i64 a))), .s (.c (.f (.int .i64 h)))] => some (.need [SW ts ws, FIn ts] (.ret (sB (.o (outF ts a.den h.den))) m))
noncomputable def EWUn (ts : Array Value) (n : Nat) : Env := ⟨Tryd.prog, fnOf, conWUn ts n, haltAt [13 * 1000 + 6]⟩
noncomputable def EWUz (ts : Array Value) (n : Nat) : Env := ⟨Tryd.prog, fnOf, conWUn ts n, haltAt [13 * 1000 + 8]⟩
noncomputable def wuU_d0 : List SIt := sekF Tryd.f13 6
noncomputable def wuU_F (ws : Array Value) (h : Int) (n : Nat) (rs : Array Value) (i : Int) (k : Nat) (cs : Array Value) : List SFr := [frOf 13 Tryd.f13 [(1, i64 (.o h)), (2, ptr 0 (.l 0)), (5, slS 1 k), (6, slS 2 n), (7, i64 (.o i))] wuU_d0]
noncomputable def wuU_M (ws : Array Value) (h : Int) (n : Nat) (rs : Array Value) (i : Int) (k : Nat) (cs : Array Value) : SMem := mkM 3 [(0, ⟨.op ws, 51, true⟩), (1, ⟨.pop cs, 3, true⟩), (2, ⟨.pop rs, 3, true⟩)]
noncomputable def wuU_n (ws : Array Value) (h : Int) (n : Nat) (rs : Array Value) (Q : Int → Nat → Array Value → Prop) (fs : List SFr) (m : SMem) : Prop := (match frNth fs 0 with | some f0 => (match rdI f0 7 with | some i => (match rdP f0 2 with | some p0 => (match rdSI f0 5 with | some p1 => (match rdSI f0 6 with | some p2 => (match rdSN f0 5 with | some k => (match rdA m p1 with | some cs => Q i k cs ∧ subOk 0 [(0, p0), (1, p1), (2, p2)] (wuU_F ws h n rs i k cs) (wuU_M ws h n rs i k cs) fs m | none => False) | none => False) | none => False) | none => False) | none => False) | none => False) | none => False)
noncomputable def wuu0_t (ts : Array Value) (n : Nat) (ws : Array Value) (h : Int) : Tree := run (EWUn ts n) 1000 0 [callFr 13 Tryd.f13.ntmps [wtS ws, i64 (.o h)] (Tryd.f13.body.getD .skip)] e0M
noncomputable def wuu1_t (ts : Array Value) (n : Nat) (ws : Array Value) (h : Int) (r : Nat) (rs : Array Value) (i : Int) (k : Nat) (cs : Array Value) : Tree := stepT (EWUn ts n).go (run (EWUn ts n) 1000) 0 (wuU_F ws h r rs i k cs) (wuU_M ws h r rs i k cs)
theorem wuU_d0_ok (r : Nat → Option Nat) : TodoOk r wuU_d0 wuU_d0 := TodoOk.it (by kernel_rfl)
theorem wuU_good {A : SV → SMem → Prop} {ws : Array Value} {h : Int} {n : Nat} {rs : Array Value} {Q : Int → Nat → Array Value → Prop} {fs : List SFr} {m : SMem} (H : ∀ i k cs, Q i k cs → Good Tryd.prog A 0 (wuU_F ws h n rs i k cs) (wuU_M ws h n rs i k cs)) (hb : wuU_n ws h n rs Q fs m) : Good Tryd.prog A 0 fs m := by
 unfold wuU_n at hb
 exact Good.of_sub hb.2 (H _ _ _ hb.1)
theorem wuuE (ts : Array Value) (n : Nat) (ws : Array Value) (h : Int) : (wuu0_t ts n ws h).vc nilK (fun _ _ => False) =
  ((Array.size ws = 448 ∧ True) ∧ (SW ts ws ∧ TbOk ts ∧ True) ∧ ((!gdF ts h) = true → True) ∧ ((!gdF ts h) = false → (Array.size ws = 448 ∧ True) ∧ (SW ts ws ∧ TbOk ts ∧ True) ∧ (decide (List.length (kdF ts h) = 0) = true → False) ∧ (decide (List.length (kdF ts h) = 0) = false → False))) := by kernel_rfl
theorem wuu1 (ts : Array Value) (n : Nat) (ws : Array Value) (h : Int) (r : Nat) (rs : Array Value) (i : Int) (k : Nat) (cs : Array Value) (kF : Nat) (csF : Array Value) (Q : Int → Nat → Array Value → Prop) : (wuu1_t ts n ws h r rs i k cs).vc (freshA kF csF 3) (wuU_n ws h r rs Q) =
  ((decide (i < (↑r : Int)) = true → (Array.size ws = 448 ∧ True) ∧ ((0 ≤ i ∧ i < (↑r : Int)) ∧ True) ∧ (IsInt .i64 rs (0 + Int.toNat i * 1) ∧ True) ∧ (SW ts ws ∧ FIn ts ∧ (14 : Nat) ≤ depF ts (intAt rs (0 + Int.toNat i * 1)) + n ∧ True) ∧ (decide (List.length (unT ts (intAt rs (0 + Int.toNat i * 1))) = 0) = true → Q (ari .add .i64 i 1) k cs ∧ CallKind.normal = CallKind.normal ∧ TodoOk (ren 0 [(0, 0), (1, 1), (2, 2)]) wuU_d0 wuU_d0 ∧ h = h ∧ ari .add .i64 i 1 = ari .add .i64 i 1 ∧ k = k ∧ r = r ∧ (51 : TypeId) = (51 : TypeId) ∧ ws = ws ∧ (3 : TypeId) = (3 : TypeId) ∧ cs = cs ∧ (3 : TypeId) = (3 : TypeId) ∧ rs = rs ∧ True) ∧ (decide (List.length (unT ts (intAt rs (0 + Int.toNat i * 1))) = 0) = false → (0 + List.length (unT ts (intAt rs (0 + Int.toNat i * 1))) * 1 ≤ Array.size (i64s (unT ts (intAt rs (0 + Int.toNat i * 1)))) ∧ ((k + List.length (unT ts (intAt rs (0 + Int.toNat i * 1)))) * 8 ≤ 140737488355328 ∧ k + List.length (unT ts (intAt rs (0 + Int.toNat i * 1))) ≤ 140737488355328) ∧ k * 1 = Array.size cs ∧ True) ∧ Q (ari .add .i64 i 1) (k + List.length (unT ts (intAt rs (0 + Int.toNat i * 1)))) (cs ++ Array.extract (i64s (unT ts (intAt rs (0 + Int.toNat i * 1)))) (0 : Nat) (0 + List.length (unT ts (intAt rs (0 + Int.toNat i * 1))) * 1)) ∧ CallKind.normal = CallKind.normal ∧ TodoOk (ren 0 [(0, 0), (1, 4), (2, 2)]) wuU_d0 wuU_d0 ∧ h = h ∧ ari .add .i64 i 1 = ari .add .i64 i 1 ∧ k + List.length (unT ts (intAt rs (0 + Int.toNat i * 1))) = k + List.length (unT ts (intAt rs (0 + Int.toNat i * 1))) ∧ r = r ∧ (51 : TypeId) = (51 : TypeId) ∧ ws = ws ∧ (3 : TypeId) = (3 : Nat) ∧ cs ++ Array.extract (i64s (unT ts (intAt rs (0 + Int.toNat i * 1)))) (0 : Nat) (0 + List.length (unT ts (intAt rs (0 + Int.toNat i * 1))) * 1) = cs ++ Array.extract (i64s (unT ts (intAt rs (0 + Int.toNat i * 1)))) (0 : Nat) (0 + List.length (unT ts (intAt rs (0 + Int.toNat i * 1))) * 1) ∧ (3 : TypeId) = (3 : TypeId) ∧ rs = rs ∧ True)) ∧ (decide (i < (↑r : Int)) = false → kF = k ∧ (3 : TypeId) = (3 : TypeId) ∧ csF = cs ∧ True)) := by kernel_rfl
noncomputable def freshL (h : Int) (ty : TypeId) (s : SV) (m : SMem) : Prop := match s with | .s (.c (.f (.slice sid _ _ _))) => retOk 0 [(0, sid)] (.s (.c (.f (.slice 0 (.l 0) (.l 1) (.n (.l 1)))))) (mkM 1 [(0, ⟨.ls [.f (.int .i64 (.o h))], ty, true⟩)]) s m | _ => False
noncomputable def wuA_d0 : List SIt := sekF Tryd.f13 6
noncomputable def wuA_F (ws : Array Value) (h : Int) (n : Nat) (rs : Array Value) : List SFr := [frOf 13 Tryd.f13 [(1, i64 (.o h)), (2, ptr 0 (.l 0)), (5, .s (.c (.f (.slice 1 (.l 0) (.l 1) (.n (.l 1)))))), (6, slS 2 n), (7, i64 (.o 0))] wuA_d0]
noncomputable def wuA_M (ws : Array Value) (h : Int) (n : Nat) (rs : Array Value) : SMem := mkM 3 [(0, ⟨.op ws, 51, true⟩), (1, ⟨.ls [.f (.int .i64 (.o h))], 3, true⟩), (2, ⟨.pop rs, 3, true⟩)]
noncomputable def wuA_n (ws : Array Value) (h : Int) (n : Nat) (rs : Array Value) (Q : Prop) (fs : List SFr) (m : SMem) : Prop := (match frNth fs 0 with | some f0 => (match rdP f0 2 with | some p0 => (match rdSI f0 5 with | some p1 => (match rdSI f0 6 with | some p2 => Q ∧ subOk 0 [(0, p0), (1, p1), (2, p2)] (wuA_F ws h n rs) (wuA_M ws h n rs) fs m | none => False) | none => False) | none => False) | none => False)
noncomputable def wua1_t (ts : Array Value) (n : Nat) (ws : Array Value) (h : Int) (r : Nat) (rs : Array Value) : Tree := stepT (EWUn ts n).go (run (EWUn ts n) 1000) 0 (wuA_F ws h r rs) (wuA_M ws h r rs)
theorem wuA_d0_ok (r : Nat → Option Nat) : TodoOk r wuA_d0 wuA_d0 := TodoOk.it (by kernel_rfl)
theorem wuA_good {A : SV → SMem → Prop} {ws : Array Value} {h : Int} {n : Nat} {rs : Array Value} {Q : Prop} {fs : List SFr} {m : SMem} (H : Q  → Good Tryd.prog A 0 (wuA_F ws h n rs) (wuA_M ws h n rs)) (hb : wuA_n ws h n rs Q fs m) : Good Tryd.prog A 0 fs m := by
 unfold wuA_n at hb
 exact Good.of_sub hb.2 (H  hb.1)
theorem wuuL (ts : Array Value) (n : Nat) (ws : Array Value) (h : Int) : (run (EWUz ts n) 1000 0 [callFr 13 Tryd.f13.ntmps [wtS ws, i64 (.o h)] (Tryd.f13.body.getD .skip)] e0M).vc (freshL h 3) (fun _ _ => False) =
  ((Array.size ws = 448 ∧ True) ∧ (SW ts ws ∧ TbOk ts ∧ True) ∧ ((!gdF ts h) = true → False) ∧ ((!gdF ts h) = false → (Array.size ws = 448 ∧ True) ∧ (SW ts ws ∧ TbOk ts ∧ True) ∧ (decide (List.length (kdF ts h) = 0) = true → (3 : TypeId) = (3 : Nat) ∧ h = h ∧ True) ∧ (decide (List.length (kdF ts h) = 0) = false → (decide ((0 : Int) < (↑(List.length (kdF ts h)) : Int)) = true → False) ∧ (decide ((0 : Int) < (↑(List.length (kdF ts h)) : Int)) = false → (3 : TypeId) = (3 : Nat) ∧ h = h ∧ True)))) := by kernel_rfl
theorem wuuA (ts : Array Value) (n : Nat) (ws : Array Value) (h : Int) (r : Nat) (rs : Array Value) (kF : Nat) (csF : Array Value) : (wuu0_t ts n ws h).vc (freshA kF csF 3) (wuA_n ws h r rs True) =
  ((Array.size ws = 448 ∧ True) ∧ (SW ts ws ∧ TbOk ts ∧ True) ∧ ((!gdF ts h) = true → False) ∧ ((!gdF ts h) = false → (Array.size ws = 448 ∧ True) ∧ (SW ts ws ∧ TbOk ts ∧ True) ∧ (decide (List.length (kdF ts h) = 0) = true → False) ∧ (decide (List.length (kdF ts h) = 0) = false → True ∧ CallKind.normal = CallKind.normal ∧ TodoOk (ren 0 [(0, 0), (1, 1), (2, 2)]) wuA_d0 wuA_d0 ∧ h = h ∧ (0 : Int) = (0 : Int) ∧ r = List.length (kdF ts h) ∧ (51 : TypeId) = (51 : Nat) ∧ ws = ws ∧ (3 : TypeId) = (3 : Nat) ∧ h = h ∧ (3 : TypeId) = (3 : TypeId) ∧ rs = i64s (kdF ts h) ∧ True))) := by kernel_rfl
theorem wua1 (ts : Array Value) (n : Nat) (ws : Array Value) (h : Int) (r : Nat) (rs : Array Value) (kF : Nat) (csF : Array Value) (Q : Int → Nat → Array Value → Prop) : (wua1_t ts n ws h r rs).vc (freshA kF csF 3) (wuU_n ws h r rs Q) =
  ((decide ((0 : Int) < (↑r : Int)) = true → (Array.size ws = 448 ∧ True) ∧ (((0 : Int) ≤ 0 ∧ (0 : Int) < (↑r : Int)) ∧ True) ∧ (IsInt .i64 rs (0 + 0 * 1) ∧ True) ∧ (SW ts ws ∧ FIn ts ∧ (14 : Nat) ≤ depF ts (intAt rs (0 + 0 * 1)) + n ∧ True) ∧ (decide (List.length (unT ts (intAt rs (0 + 0 * 1))) = 0) = true → Q (1 : Int) (1 : Nat) #[Value.int .i64 h] ∧ False) ∧ (decide (List.length (unT ts (intAt rs (0 + 0 * 1))) = 0) = false → (0 + List.length (unT ts (intAt rs (0 + 0 * 1))) * 1 ≤ Array.size (i64s (unT ts (intAt rs (0 + 0 * 1)))) ∧ ((1 + List.length (unT ts (intAt rs (0 + 0 * 1)))) * 8 ≤ 140737488355328 ∧ 1 + List.length (unT ts (intAt rs (0 + 0 * 1))) ≤ 140737488355328) ∧ True) ∧ Q (1 : Int) (1 + List.length (unT ts (intAt rs (0 + 0 * 1)))) (#[Value.int .i64 h] ++ Array.extract (i64s (unT ts (intAt rs (0 + 0 * 1)))) (0 : Nat) (0 + List.length (unT ts (intAt rs (0 + 0 * 1))) * 1)) ∧ CallKind.normal = CallKind.normal ∧ TodoOk (ren 0 [(0, 0), (1, 4), (2, 2)]) wuA_d0 wuA_d0 ∧ h = h ∧ (1 : Int) = (1 : Int) ∧ 1 + List.length (unT ts (intAt rs (0 + 0 * 1))) = 1 + List.length (unT ts (intAt rs (0 + 0 * 1))) ∧ r = r ∧ (51 : TypeId) = (51 : TypeId) ∧ ws = ws ∧ (3 : TypeId) = (3 : Nat) ∧ #[Value.int .i64 h] ++ Array.extract (i64s (unT ts (intAt rs (0 + 0 * 1)))) (0 : Nat) (0 + List.length (unT ts (intAt rs (0 + 0 * 1))) * 1) = #[Value.int .i64 h] ++ Array.extract (i64s (unT ts (intAt rs (0 + 0 * 1)))) (0 : Nat) (0 + List.length (unT ts (intAt rs (0 + 0 * 1))) * 1) ∧ (3 : TypeId) = (3 : TypeId) ∧ rs = rs ∧ True)) ∧ (decide ((0 : Int) < (↑r : Int)) = false → False)) := by kernel_rfl
theorem Good.full1 {P : Program} {fs : List SFr} {m : SMem} {x : Int} {ty : TypeId} (hg : Good P (fun s m' => s = .s (.c (.f (.slice 0 (.l 0) (.l 1) (.n (.l 1))))) ∧ m' = mkM 1 [(0, ⟨.ls [.f (.int .i64 (.o x))], ty, true⟩)]) 0 fs m) : Good P (fun s m' => s = .s (.c (.f (.slice 0 (.l 0) (.o 1) (.full 1)))) ∧ m' = mkM 1 [(0, ⟨.pop #[.int .i64 x], ty, true⟩)]) 0 fs m := by
 intro n0 F w0 ws w Rs R fr frs hf hR hX hs
 refine (hg n0 F w0 ws w Rs R fr frs hf hR hX hs).mono ?_
 rintro v w' ⟨s, m', R', ⟨rfl, rfl⟩, hX', hR', hv⟩
 obtain ⟨g, cs, fz, e1, e2, e3, e4, e5⟩ := hR'.blk 0 ⟨.ls [.f (.int .i64 (.o x))], ty, true⟩ rfl
 have hc : cs = #[.int .i64 x] := by
  have e4 : All2 (SC.ok R') [.f (.int .i64 (.o x))] cs.toList := e4
  cases hl : cs.toList with
  | nil => rw [hl] at e4; exact e4.elim
  | cons a l =>
   rw [hl] at e4
   obtain ⟨h1, h2⟩ := e4
   cases l with
   | nil =>
    have h1 : a = .int .i64 x := h1
    rw [h1] at hl
    apply Array.toList_inj.1
    rw [hl]
   | cons b l => exact h2.elim
 have hn : g.n = 1 := by rw [← e3, hc]; rfl
 have key : ∀ i b, getB (mkM 1 [(0, ⟨.pop #[.int .i64 x], ty, true⟩)]).bl i = some b → i = 0 ∧ b = ⟨.pop #[.int .i64 x], ty, true⟩ := by
  intro i b h
  have h : getB (Tr.nil.set 0 (some ⟨.pop #[.int .i64 x], ty, true⟩)) i = some b := h
  cases i with
  | zero => exact ⟨rfl, (Option.some.inj h).symm⟩
  | succ i => exact absurd h (by
    rw [getB_set, if_neg (by omega)]
    intro h; cases h)
 refine ⟨_, _, R', ⟨rfl, rfl⟩, hX', ?_, ?_⟩
 ·refine { hR' with inj := ?_, blk := ?_ }
  ·intro i j g h b c _ _ _ hi hj _
   rw [(key i b hi).1, (key j c hj).1]
  ·intro i b h
   obtain ⟨rfl, rfl⟩ := key i b h
   refine ⟨g, cs, fz, e1, e2, e3, ?_, e5⟩
   show SA.okM R' (.pop #[.int .i64 x]) cs
   rw [hc]
   refine ⟨rfl, ?_⟩
   intro v hv
   rw [List.mem_singleton.1 hv]
 ·obtain ⟨g', c, k1, k2, k3, k4⟩ := hv
  rw [e1] at k1
  obtain rfl := Option.some.inj k1
  have k3 : c = 1 := k3
  refine ⟨g, c, e1, k2, ?_, k4⟩
  show c * 1 = g.n ∧ c ≤ maxLen
  rw [k3, hn]
  exact ⟨rfl, by decide⟩
theorem i64s_cat (l r : List Int) : i64s (l ++ r) = i64s l ++ i64s r := by unfold i64s; simp
noncomputable def unP (ts : Array Value) (h : Int) (i : Nat) : List Int := h :: ((kdF ts h).take i).flatMap (UNL ts)
theorem unP_succ {i : Nat} (hi : i < (kdF ts h).length) : unP ts h (i + 1) = unP ts h i ++ UNL ts ((kdF ts h).getD i 0) := by
 unfold unP
 rw [List.take_succ, List.getElem?_eq_getElem hi, Option.toList_some, List.flatMap_append, List.flatMap_cons, List.flatMap_nil, List.append_nil, List.getD_eq_getElem?_getD, List.getElem?_eq_getElem hi]
theorem unP_all (hf : FIn ts) (hg : gdF ts h = true) : unP ts h (kdF ts h).length = unT ts h := by
 have hx := (lv_mem hf.ok).2 hg
 unfold unP unT
 rw [List.take_length, if_pos hg, kdF_eq hf hx]
 exact (unl_cons hf hx).symm
theorem kdF_mem {x : Int} (hk : x ∈ kdF ts h) : x ∈ lvT ts ∧ upF ts x = h := by
 unfold kdF at hk
 split at hk
 ·obtain ⟨a, b⟩ := List.mem_filter.1 hk
  exact ⟨a, by simpa using b⟩
 ·cases hk
theorem conWUn_ok (n : Nat) (ih : ∀ (ws : Array Value) (h : Int) (m : SMem), Con E0 13 [wtS ws, i64 (.o h)] m (.need [SW ts ws, FIn ts, 14 ≤ depF ts h + n] (rowW (unT ts h) m))) : ∀ g l m t, conWUn ts n g l m = some t → Con E0 g l m t := by
 unfold conWUn at h
  exact ih ws x.den m A ⟨fun p hp => hq p hp, hs⟩
  exact rkids_con x.den m A ⟨fun p hp => hq p hp, hs⟩
  exact rout_con a.den x.den m A ⟨fun p hp => hq p hp, hs⟩
theorem wuU_ok {n : Nat} (hE : EnvOk (EWUn ts n)) (w : SW ts ws) (hf : FIn ts) (hg : gdF ts h = true) (hn : 14 ≤ depF ts h + (n + 1)) : ∀ (k i : Nat), i + k = (kdF ts h).length → Good Tryd.prog (freshA (unT ts h).length (i64s (unT ts h)) 3) 0 (wuU_F ws h (kdF ts h).length (i64s (kdF ts h)) (i : Int) (unP ts h i).length (i64s (unP ts h i))) (wuU_M ws h (kdF ts h).length (i64s (kdF ts h)) (i : Int) (unP ts h i).length (i64s (unP ts h i))) := by
 have hlen := kd_len ts h
 have hu : (unT ts h).length ≤ 32 := by
  have := un_32 hf hx
  unfold unT
  rw [if_pos hg]
  obtain rfl : i = (kdF ts h).length := by omega
  refine past_vc hE 1000 (wuu1 ts n ws h _ _ _ _ _ (unT ts h).length (i64s (unT ts h)) (fun _ _ _ => False)) ?_ (fun _ _ h => h) (fun fs m hb => wuU_good (fun _ _ _ h => h.elim) hb)
  have d : decide (((kdF ts h).length : Int) < ((kdF ts h).length : Int)) = false := decide_eq_false (by omega)
  simp only [d, unP_all hf hg, q6]
  have hi' : i < (kdF ts h).length := by omega
  have e0 := unP_succ hi'
  have hk := kdF_mem (show (kdF ts h).getD i 0 ∈ kdF ts h by rw [List.getD_eq_getElem?_getD, List.getElem?_eq_getElem hi']; exact List.getElem_mem hi')
  have gk := (lv_mem hb).1 hk.1
  have dk := dep_up hf gk
  rw [hk.2] at dk
  have hn2 : 14 ≤ depF ts ((kdF ts h).getD i 0) + n := by omega
  have eu : unT ts ((kdF ts h).getD i 0) = UNL ts ((kdF ts h).getD i 0) := if_pos gk
  have hu0 : (UNL ts ((kdF ts h).getD i 0)).length ≠ 0 := by rw [unl_cons hf hk.1, List.length_cons]; omega
  have hu1 : (UNL ts ((kdF ts h).getD i 0)).length ≤ 32 := un_32 hf hk.1
  have d0 : decide ((UNL ts ((kdF ts h).getD i 0)).length = 0) = false := decide_eq_false hu0
  have hp : (unP ts h i).length ≤ 2000 := by
   unfold unP
   have : ∀ l : List Int, (∀ x ∈ l, (UNL ts x).length ≤ 32) → (l.flatMap (UNL ts)).length ≤ l.length * 32 := by
    intro l
    induction l with
    | nil => intro _; simp
    | cons a l ihl =>
     intro h
     have h1 := ihl fun x hx => h x (List.mem_cons_of_mem _ hx)
     have h2 := h a (List.mem_cons_self ..)
     rw [List.flatMap_cons, List.length_append, List.length_cons]
     omega
   have h1 := this ((kdF ts h).take i) fun x hx => un_32 hf (kdF_mem (List.mem_of_mem_take hx)).1
   have h2 : ((kdF ts h).take i).length ≤ 32 := Nat.le_trans (List.length_take_le ..) (by omega)
   rw [List.length_cons]
  refine past_vc hE 1000 (wuu1 ts n ws h _ _ (i : Int) _ _ (unT ts h).length (i64s (unT ts h)) (fun i' k' c' => i' = ((i + 1 : Nat) : Int) ∧ k' = (unP ts h (i + 1)).length ∧ c' = i64s (unP ts h (i + 1)))) ?_ (fun _ _ h => h) (fun fs m hb => wuU_good (fun i' k' c' ⟨e1, e2, e3⟩ => by rw [e1, e2, e3]; exact ih (i + 1) (by omega)) hb)
  have d : decide ((i : Int) < ((kdF ts h).length : Int)) = true := decide_eq_true (by omega)
  have g1 : IsInt .i64 (i64s (kdF ts h)) i := isI_of (i64s_at hi')
  have g2 : intAt (i64s (kdF ts h)) i = (kdF ts h).getD i 0 := intAt_of (i64s_at hi')
  have hx1 : (i : Int) < ((kdF ts h).length : Int) := by omega
  have hl1 : (((unP ts h i).length + (UNL ts ((kdF ts h).getD i 0)).length) * 8 ≤ 140737488355328 ∧ (unP ts h i).length + (UNL ts ((kdF ts h).getD i 0)).length ≤ 140737488355328) := ⟨by omega, by omega⟩
  have ex : (i64s (UNL ts ((kdF ts h).getD i 0))).extract 0 (UNL ts ((kdF ts h).getD i 0)).length = i64s (UNL ts ((kdF ts h).getD i 0)) := by
   rw [← i64s_size, Array.extract_size]
  have t1 : TodoOk (ren 0 [(0, 0), (1, 4), (2, 2)]) wuU_d0 wuU_d0 := wuU_d0_ok _
  simp only [Int.toNat_natCast, Nat.mul_one, Nat.zero_add, d, d0, ei, g1, g2, hx0, hx1, hz, w, hf, hn2, eu, hl1, ex, t1, i64s_size, i64s_cat, List.length_append, Nat.le_refl, decide_true, wuU_d0_ok, q6]
theorem under_levels (ts : Array Value) : ∀ n : Nat, ∀ (ws : Array Value) (h : Int) (m : SMem), Con E0 13 [wtS ws, i64 (.o h)] m (.need [SW ts ws, FIn ts, 14 ≤ depF ts h + n] (rowW (unT ts h) m)) := by
 intro n
 induction n with
  intro ws h m
  refine Con.asked fun hq => ?_
  have hf : FIn ts := hq _ (by simp)
  have hd : 14 ≤ depF ts h + 0 := hq _ (by simp)
  have := dep_13 hf h
 | succ n ih =>
  intro ws h m
  have hE : EnvOk (EWUn ts n) := EnvOk.with E0_ok _ _ (conWUn_ok n ih)
  have hEz : EnvOk (EWUz ts n) := EnvOk.with E0_ok _ _ (conWUn_ok n ih)
  refine Con.asked fun hq => ?_
  have w : SW ts ws := hq _ (by simp)
  have hf : FIn ts := hq _ (by simp)
  have hd : 14 ≤ depF ts h + (n + 1) := hq _ (by simp)
  have hz := w.sz
  have hb := hf.ok
   have e : unT ts h = [] := by unfold unT; rw [hg]; rfl
   rw [e] at hs
   have hs : A (.s (.c (.f (.lit (.slice none 0 0))))) m := hs.1 rfl
   refine (show Con E0 13 [wtS ws, i64 (.o h)] m (needs [] (.ret (.s (.c (.f (.lit (.slice none 0 0))))) m)) from Con.pure E0_ok (by kernel_rfl : E0.fn 13 = some Tryd.f13) (by kernel_rfl : Tryd.f13.body = some (Tryd.f13.body.getD .skip)) (by kernel_rfl) (by kernel_rfl) fun _ => ?_) A hs
   refine Good.mono (A := nilK) ?_ ?_
   ·refine run_vc hE 1000 (wuuE ts n ws h) ?_ (fun s m h => h) fun _ _ h => h.elim
    simp only [hz, w, hb, hg, Bool.not_false, q6]
   ·intro s m' hs
    unfold nilK at hs
    split at hs
    ·rfl
    ·exact hs.elim
   have hx := (lv_mem hb).2 hg
   have hun : unT ts h = UNL ts h := if_pos hg
   have hne : decide ((unT ts h).length = 0) = false := decide_eq_false (by rw [hun, unl_cons hf hx, List.length_cons]; omega)
   have hs : A (.s (.c (.f (.slice m.next (.l 0) (.o (unT ts h).length) (.full 1))))) (m.new (.pop (i64s (unT ts h))) 3) := hs.2 hne
   by_cases hk : kdF ts h = []
   ·have eu : unT ts h = [h] := by rw [hun, unl_cons hf hx, ← kdF_eq hf hx, hk]; rfl
    rw [eu] at hs
    refine (show Con E0 13 [wtS ws, i64 (.o h)] m (needs [] (.ret (.s (.c (.f (.slice m.next (.l 0) (.o 1) (.full 1))))) (m.new (.pop #[.int .i64 h]) 3))) from Con.fresh E0_ok (by kernel_rfl : E0.fn 13 = some Tryd.f13) (by kernel_rfl : Tryd.f13.body = some (Tryd.f13.body.getD .skip)) (by kernel_rfl) rfl fun _ => ?_) A hs
    refine Good.full1 (Good.retX ((run_vc hEz 1000 (wuuL ts n ws h) ?_ (fun s m h => h) fun _ _ h => h.elim).mono fun s m h => ?_))
    ·have d : decide ((kdF ts h).length = 0) = true := decide_eq_true (by rw [hk]; rfl)
     simp only [hz, w, hb, hg, d, Bool.not_true, q6]
    ·unfold freshL at h
     split at h
     ·exact ⟨_, h⟩
     ·exact h.elim
   ·refine (show Con E0 13 [wtS ws, i64 (.o h)] m (needs [] (.ret (.s (.c (.f (.slice m.next (.l 0) (.o (unT ts h).length) (.full 1))))) (m.new (.pop (i64s (unT ts h))) 3))) from Con.fresh E0_ok (by kernel_rfl : E0.fn 13 = some Tryd.f13) (by kernel_rfl : Tryd.f13.body = some (Tryd.f13.body.getD .skip)) (by kernel_rfl) rfl fun _ => ?_) A hs
    refine Good.retX ((run_vc hE 1000 (wuuA ts n ws h (kdF ts h).length (i64s (kdF ts h)) (unT ts h).length (i64s (unT ts h))) ?_ (fun s m h => h) fun fs m hm => wuA_good (A := freshA (unT ts h).length (i64s (unT ts h)) 3) (fun _ => ?_) hm).mono fun s m h => ?_)
    ·have d : decide ((kdF ts h).length = 0) = false := decide_eq_false (fun e => hk (List.eq_nil_of_length_eq_zero e))
     simp only [hz, w, hb, hg, d, Bool.not_true, wuA_d0_ok, q6]
    ·have hp := List.length_pos_iff.2 hk
     have hk0 := kdF_mem (show (kdF ts h).getD 0 0 ∈ kdF ts h by rw [List.getD_eq_getElem?_getD, List.getElem?_eq_getElem hp]; exact List.getElem_mem hp)
     have gk := (lv_mem hb).1 hk0.1
     have dk := dep_up hf gk
     rw [hk0.2] at dk
     have hn2 : 14 ≤ depF ts ((kdF ts h).getD 0 0) + n := by omega
     have eu : unT ts ((kdF ts h).getD 0 0) = UNL ts ((kdF ts h).getD 0 0) := if_pos gk
     have hu0 : (UNL ts ((kdF ts h).getD 0 0)).length ≠ 0 := by rw [unl_cons hf hk0.1, List.length_cons]; omega
     have hu1 : (UNL ts ((kdF ts h).getD 0 0)).length ≤ 32 := un_32 hf hk0.1
     have d0 : decide ((UNL ts ((kdF ts h).getD 0 0)).length = 0) = false := decide_eq_false hu0
     refine past_vc hE 1000 (wua1 ts n ws h _ _ (unT ts h).length (i64s (unT ts h)) (fun i' k' c' => i' = ((0 + 1 : Nat) : Int) ∧ k' = (unP ts h (0 + 1)).length ∧ c' = i64s (unP ts h (0 + 1)))) ?_ (fun _ _ h => h) (fun fs m hb => wuU_good (fun i' k' c' ⟨e1, e2, e3⟩ => by rw [e1, e2, e3]; exact wuU_ok hE w hf hg hd ((kdF ts h).length - 1) 1 (by omega)) hb)
     have d : decide ((0 : Int) < ((kdF ts h).length : Int)) = true := decide_eq_true (by omega)
     have g1 : IsInt .i64 (i64s (kdF ts h)) 0 := isI_of (i64s_at hp)
     have g2 : intAt (i64s (kdF ts h)) 0 = (kdF ts h).getD 0 0 := intAt_of (i64s_at hp)
     have hx1 : (0 : Int) < ((kdF ts h).length : Int) := by omega
     have hl1 : ((1 + (UNL ts ((kdF ts h).getD 0 0)).length) * 8 ≤ 140737488355328 ∧ 1 + (UNL ts ((kdF ts h).getD 0 0)).length ≤ 140737488355328) := ⟨by omega, by omega⟩
     have ex : (i64s (UNL ts ((kdF ts h).getD 0 0))).extract 0 (UNL ts ((kdF ts h).getD 0 0)).length = i64s (UNL ts ((kdF ts h).getD 0 0)) := by
      rw [← i64s_size, Array.extract_size]
     have e0 : unP ts h 1 = [h] ++ UNL ts ((kdF ts h).getD 0 0) := unP_succ (ts := ts) (h := h) hp
     rw [show 0 + 1 = 1 from rfl, e0]
     simp only [Int.toNat_natCast, Nat.mul_one, Nat.zero_add, d, d0, g1, g2, hx1, hz, w, hf, hn2, eu, hl1, ex, i64s_one, i64s_size, i64s_cat, List.length_append, List.length_singleton, Nat.le_refl, Int.le_refl, decide_true, wuU_d0_ok, q6]
     exact ⟨rfl, wuA_d0_ok _⟩
    ·unfold freshA at h
     split at h
     ·exact ⟨_, h⟩
     ·exact h.elim
theorem runder_con (h : Int) (m : SMem) : Con E0 13 [wtS ws, i64 (.o h)] m (.need [SW ts ws, FIn ts] (rowW (unT ts h) m)) := by
 refine under_levels ts 14 ws h m A ⟨fun p hp => ?_, hs⟩
 simp only [List.mem_cons, List.not_mem_nil, or_false] at hp
 rcases hp with rfl | rfl | rfl
 ·exact hf
def zr12 : List Value := [.int .i64 0, .int .i64 0, .slice none 0 0, .int .i64 0, .int .i64 0, .int .i64 0, .int .i64 0, .int .i64 0, .int .i64 0, .int .i64 0, .int .i64 0, .int .i64 0]
def zW : Array Value := (List.replicate 64 (Value.int .i64 0) ++ (List.replicate 32 zr12).flatten).toArray
theorem zW_sz : zW.size = 448 := by decide +kernel
def drL (us : Array Value) (h : Int) : Nat → Array Value
 | 0 => us
 | n + 1 => if intAt (drL us h n) (64 + n * 12) = h then (drL us h n).setIfInBounds (64 + n * 12) (.int .i64 0) else drL us h n
def dr0 (ws : Array Value) (h : Int) : Array Value := putAt (putAt ws 0 (voW (ws.extract 0 64) h).toList) (64 + (slW (ws.extract 0 64) h).toNat * 12) zr12
def drW (ws : Array Value) (h : Int) : Array Value := if slW (ws.extract 0 64) h < 0 then ws else drL (dr0 ws h) h 32
def drE (ws : Array Value) (h : Int) : Int := if slW (ws.extract 0 64) h < 0 then 4 else 0
structure WT (ws : Array Value) : Prop where
 sz : ws.size = 448
 wb : WB (ws.extract 0 64)
 up : ∀ i, i < 32 → IsInt .i64 ws (64 + i * 12)
noncomputable def conJ4 (g : FuncId) (l : List SV) (m : SMem) : Option Tree := match g, l with
 | 70, [.s (.agg (.op ws)), .s (.c (.f (.int .i64 h)))] => some (.need [WB ws] (.ret (.tup [.agg (.op (voW ws h.den)), .c (.f (.bool (.o (decide (0 ≤ slW ws h.den)))))]) m))
 | g, l => conI1 g l m
noncomputable def EJ4 : Env := ⟨Tryd.prog, fnOf, conJ4, haltAt [56 * 1000 + 7]⟩
noncomputable def weS (o : Array Value) (e : Int) : SV := .tup [.agg (.op o), .c (.f (.int .i64 (.o e)))]
noncomputable def raW (ts ws : Array Value) (h u : Int) : Array Value := if raE ts h u = 0 then ws.setIfInBounds (64 + sl h * 12) (.int .i64 u) else ws
noncomputable def conJ5 (ts : Array Value) (g : FuncId) (l : List SV) (m : SMem) : Option Tree := match g, l with
 | 56, [.s (.agg (.op ws)), .s (.c (.f (.int .i64 h)))] => some (.need [WT ws] (.ret (weS (drW ws h.den) (drE ws h.den)) m))
 | 58, [.s (.agg (.op ws)), .s (.c (.f (.int .i64 h))), .s (.c (.f (.int .i64 u)))] => some (.need [SW ts ws, FIn ts] (.ret (weS (raW ts ws h.den u.den) (raE ts h.den u.den)) m))
 | 13, [.s (.agg (.op ws)), .s (.c (.f (.int .i64 h)))] => some (.need [SW ts ws, FIn ts] (rowW (unT ts h.den) m))
noncomputable def conJg (ts us : Array Value) (g : FuncId) (l : List SV) (m : SMem) : Option Tree := match g, l with
 | 13, [.s (.agg (.op ws)), .s (.c (.f (.int .i64 h)))] => some (.need [SW us ws, FIn us] (rowW (unT us h.den) m))
 | 15, [.s (.agg (.op ws)), .s (.c (.f (.int .i64 h)))] => some (.need [SW us ws, FIn us] (.ret (i64 (.o (depF us h.den : Int))) m))
 | g, l => conJ5 ts g l m
noncomputable def EJ5 (ts : Array Value) : Env := ⟨Tryd.prog, fnOf, conJ5 ts, haltAt [30 * 1000 + 6, 30 * 1000 + 10, 29 * 1000 + 3]⟩
noncomputable def EJg (ts us : Array Value) : Env := ⟨Tryd.prog, fnOf, conJg ts us, haltAt [31 * 1000 + 8]⟩
noncomputable def wfS (o : Array Value) (i n : Nat) : SV := .tup [.agg (.op o), .c (.f (.slice i (.l 0) (.o n) (.full 1))), .c (.f (.int .i64 (.o 0)))]
noncomputable def wfA (o : Array Value) (n : Nat) (rs : Array Value) (s : SV) (m : SMem) : Prop := match s with | .tup [_, .c (.f (.slice i _ _ _)), _] => retOk 0 [(0, i)] (wfS o 0 n) (mkM 1 [(0, ⟨.pop rs, 3, true⟩)]) s m | _ => False
noncomputable def wfN (ws : Array Value) : SV := .tup [.agg (.op ws), .c (.f (.lit (.slice none 0 0))), .c (.f (.int .i64 (.o 4)))]
noncomputable def wdL_d0 : List SIt := sekF Tryd.f56 7
noncomputable def wdL_F (h : Int) (i : Int) (us : Array Value) (zz : Array Value) : List SFr := [frOf 56 Tryd.f56 [(1, i64 (.o h)), (2, ptr 0 (.l 0)), (4, ptr 1 (.l 0)), (7, i64 (.o i))] wdL_d0]
noncomputable def wdL_M (h : Int) (i : Int) (us : Array Value) (zz : Array Value) : SMem := mkM 2 [(0, ⟨.op us, 51, true⟩), (1, ⟨.op zz, 51, true⟩)]
noncomputable def wdL_n (h : Int) (Q : Int → Array Value → Array Value → Prop) (fs : List SFr) (m : SMem) : Prop := (match frNth fs 0 with | some f0 => (match rdI f0 7 with | some i => (match rdP f0 2 with | some p0 => (match rdP f0 4 with | some p1 => (match rdA m p0 with | some us => (match rdA m p1 with | some zz => Q i us zz ∧ subOk 0 [(0, p0), (1, p1)] (wdL_F h i us zz) (wdL_M h i us zz) fs m | none => False) | none => False) | none => False) | none => False) | none => False) | none => False)
noncomputable def wcO_d0 : List SIt := sekF Tryd.f30 6
noncomputable def wcO_F (ws : Array Value) (h : Int) (n : Nat) (ks : Array Value) (i : Int) (us : Array Value) (zz : Array Value) : List SFr := [frOf 30 Tryd.f30 [(1, i64 (.o h)), (2, ptr 0 (.l 0)), (4, ptr 1 (.l 0)), (6, ptr 2 (.l 0)), (7, slS 3 n), (8, i64 (.o i))] wcO_d0]
noncomputable def wcO_M (ws : Array Value) (h : Int) (n : Nat) (ks : Array Value) (i : Int) (us : Array Value) (zz : Array Value) : SMem := mkM 4 [(0, ⟨.op ws, 51, true⟩), (1, ⟨.op zz, 51, true⟩), (2, ⟨.op us, 51, true⟩), (3, ⟨.pop ks, 3, true⟩)]
noncomputable def wcO_n (ws : Array Value) (h : Int) (n : Nat) (ks : Array Value) (Q : Int → Array Value → Array Value → Prop) (fs : List SFr) (m : SMem) : Prop := (match frNth fs 0 with | some f0 => (match rdI f0 8 with | some i => (match rdP f0 2 with | some p0 => (match rdP f0 4 with | some p1 => (match rdP f0 6 with | some p2 => (match rdSI f0 7 with | some p3 => (match rdA m p2 with | some us => (match rdA m p1 with | some zz => Q i us zz ∧ subOk 0 [(0, p0), (1, p1), (2, p2), (3, p3)] (wcO_F ws h n ks i us zz) (wcO_M ws h n ks i us zz) fs m | none => False) | none => False) | none => False) | none => False) | none => False) | none => False) | none => False) | none => False)
noncomputable def wcI_d0 : List SIt := sekF Tryd.f30 10
noncomputable def wcI_F (ws : Array Value) (h : Int) (n : Nat) (ks : Array Value) (i : Int) (k : Int) (c : Int) (us : Array Value) (zz : Array Value) : List SFr := [frOf 30 Tryd.f30 [(1, i64 (.o h)), (2, ptr 0 (.l 0)), (4, ptr 1 (.l 0)), (6, ptr 2 (.l 0)), (7, slS 3 n), (8, i64 (.o i)), (9, i64 (.o k)), (10, i64 (.o c))] wcI_d0]
noncomputable def wcI_M (ws : Array Value) (h : Int) (n : Nat) (ks : Array Value) (i : Int) (k : Int) (c : Int) (us : Array Value) (zz : Array Value) : SMem := mkM 4 [(0, ⟨.op ws, 51, true⟩), (1, ⟨.op zz, 51, true⟩), (2, ⟨.op us, 51, true⟩), (3, ⟨.pop ks, 3, true⟩)]
noncomputable def wcI_n (ws : Array Value) (h : Int) (n : Nat) (ks : Array Value) (Q : Int → Int → Int → Array Value → Array Value → Prop) (fs : List SFr) (m : SMem) : Prop := (match frNth fs 0 with | some f0 => (match rdI f0 8 with | some i => (match rdI f0 9 with | some k => (match rdI f0 10 with | some c => (match rdP f0 2 with | some p0 => (match rdP f0 4 with | some p1 => (match rdP f0 6 with | some p2 => (match rdSI f0 7 with | some p3 => (match rdA m p2 with | some us => (match rdA m p1 with | some zz => Q i k c us zz ∧ subOk 0 [(0, p0), (1, p1), (2, p2), (3, p3)] (wcI_F ws h n ks i k c us zz) (wcI_M ws h n ks i k c us zz) fs m | none => False) | none => False) | none => False) | none => False) | none => False) | none => False) | none => False) | none => False) | none => False) | none => False)
noncomputable def wgL_d0 : List SIt := sekF Tryd.f31 8
noncomputable def wgL_F (ws : Array Value) (h : Int) (u : Int) (vs : Array Value) (e : Int) (n : Nat) (ks : Array Value) (i : Int) (zz : Array Value) : List SFr := [frOf 31 Tryd.f31 [(1, i64 (.o h)), (2, i64 (.o u)), (3, ptr 0 (.l 0)), (6, ptr 1 (.l 0)), (8, ptr 2 (.l 0)), (9, i64 (.o e)), (10, slS 3 n), (11, i64 (.o i))] wgL_d0]
noncomputable def wgL_M (ws : Array Value) (h : Int) (u : Int) (vs : Array Value) (e : Int) (n : Nat) (ks : Array Value) (i : Int) (zz : Array Value) : SMem := mkM 4 [(0, ⟨.op ws, 51, true⟩), (1, ⟨.op zz, 51, true⟩), (2, ⟨.op vs, 51, true⟩), (3, ⟨.pop ks, 3, true⟩)]
noncomputable def wgL_n (ws : Array Value) (h : Int) (u : Int) (vs : Array Value) (e : Int) (n : Nat) (ks : Array Value) (Q : Int → Array Value → Prop) (fs : List SFr) (m : SMem) : Prop := (match frNth fs 0 with | some f0 => (match rdI f0 11 with | some i => (match rdP f0 3 with | some p0 => (match rdP f0 6 with | some p1 => (match rdP f0 8 with | some p2 => (match rdSI f0 10 with | some p3 => (match rdA m p1 with | some zz => Q i zz ∧ subOk 0 [(0, p0), (1, p1), (2, p2), (3, p3)] (wgL_F ws h u vs e n ks i zz) (wgL_M ws h u vs e n ks i zz) fs m | none => False) | none => False) | none => False) | none => False) | none => False) | none => False) | none => False)
noncomputable def wfL_d0 : List SIt := sekF Tryd.f29 3
noncomputable def wfL_F (h : Int) (n : Nat) (ks : Array Value) (i : Int) (us : Array Value) (zz : Array Value) : List SFr := [frOf 29 Tryd.f29 [(1, i64 (.o h)), (2, ptr 0 (.l 0)), (4, ptr 1 (.l 0)), (7, slS 2 n), (8, i64 (.o i))] wfL_d0]
noncomputable def wfL_M (h : Int) (n : Nat) (ks : Array Value) (i : Int) (us : Array Value) (zz : Array Value) : SMem := mkM 3 [(0, ⟨.op us, 51, true⟩), (1, ⟨.op zz, 51, true⟩), (2, ⟨.pop ks, 3, true⟩)]
noncomputable def wfL_n (h : Int) (n : Nat) (ks : Array Value) (Q : Int → Array Value → Array Value → Prop) (fs : List SFr) (m : SMem) : Prop := (match frNth fs 0 with | some f0 => (match rdI f0 8 with | some i => (match rdP f0 2 with | some p0 => (match rdP f0 4 with | some p1 => (match rdSI f0 7 with | some p2 => (match rdA m p0 with | some us => (match rdA m p1 with | some zz => Q i us zz ∧ subOk 0 [(0, p0), (1, p1), (2, p2)] (wfL_F h n ks i us zz) (wfL_M h n ks i us zz) fs m | none => False) | none => False) | none => False) | none => False) | none => False) | none => False) | none => False)
noncomputable def EJ5z (ts : Array Value) : Env := ⟨Tryd.prog, fnOf, conJ5 ts, haltAt [29 * 1000 + 5]⟩
noncomputable def wcOI (ws : Array Value) (h : Int) (n : Nat) (ks : Array Value) (QO : Int → Array Value → Array Value → Prop) (QI : Int → Int → Int → Array Value → Array Value → Prop) (fs : List SFr) (m : SMem) : Prop := match Nat.beq (atR fs) (30 * 1000 + 6) with | true => wcO_n ws h n ks QO fs m | false => wcI_n ws h n ks QI fs m
theorem wdL_d0_ok (r : Nat → Option Nat) : TodoOk r wdL_d0 wdL_d0 := TodoOk.it (by kernel_rfl)
theorem wcO_d0_ok (r : Nat → Option Nat) : TodoOk r wcO_d0 wcO_d0 := TodoOk.it (by kernel_rfl)
theorem wcI_d0_ok (r : Nat → Option Nat) : TodoOk r wcI_d0 wcI_d0 := TodoOk.it (by kernel_rfl)
theorem wgL_d0_ok (r : Nat → Option Nat) : TodoOk r wgL_d0 wgL_d0 := TodoOk.it (by kernel_rfl)
theorem wfL_d0_ok (r : Nat → Option Nat) : TodoOk r wfL_d0 wfL_d0 := TodoOk.it (by kernel_rfl)
theorem wdL_good {A : SV → SMem → Prop} {h : Int} {Q : Int → Array Value → Array Value → Prop} {fs : List SFr} {m : SMem} (H : ∀ i us zz, Q i us zz → Good Tryd.prog A 0 (wdL_F h i us zz) (wdL_M h i us zz)) (hb : wdL_n h Q fs m) : Good Tryd.prog A 0 fs m := by
 unfold wdL_n at hb
theorem wcO_good {A : SV → SMem → Prop} {ws : Array Value} {h : Int} {n : Nat} {ks : Array Value} {Q : Int → Array Value → Array Value → Prop} {fs : List SFr} {m : SMem} (H : ∀ i us zz, Q i us zz → Good Tryd.prog A 0 (wcO_F ws h n ks i us zz) (wcO_M ws h n ks i us zz)) (hb : wcO_n ws h n ks Q fs m) : Good Tryd.prog A 0 fs m := by
 unfold wcO_n at hb
theorem wcI_good {A : SV → SMem → Prop} {ws : Array Value} {h : Int} {n : Nat} {ks : Array Value} {Q : Int → Int → Int → Array Value → Array Value → Prop} {fs : List SFr} {m : SMem} (H : ∀ i k c us zz, Q i k c us zz → Good Tryd.prog A 0 (wcI_F ws h n ks i k c us zz) (wcI_M ws h n ks i k c us zz)) (hb : wcI_n ws h n ks Q fs m) : Good Tryd.prog A 0 fs m := by
 unfold wcI_n at hb
 exact Good.of_sub hb.2 (H _ _ _ _ _ hb.1)
theorem wgL_good {A : SV → SMem → Prop} {ws : Array Value} {h : Int} {u : Int} {vs : Array Value} {e : Int} {n : Nat} {ks : Array Value} {Q : Int → Array Value → Prop} {fs : List SFr} {m : SMem} (H : ∀ i zz, Q i zz → Good Tryd.prog A 0 (wgL_F ws h u vs e n ks i zz) (wgL_M ws h u vs e n ks i zz)) (hb : wgL_n ws h u vs e n ks Q fs m) : Good Tryd.prog A 0 fs m := by
 unfold wgL_n at hb
 exact Good.of_sub hb.2 (H _ _ hb.1)
theorem wfL_good {A : SV → SMem → Prop} {h : Int} {n : Nat} {ks : Array Value} {Q : Int → Array Value → Array Value → Prop} {fs : List SFr} {m : SMem} (H : ∀ i us zz, Q i us zz → Good Tryd.prog A 0 (wfL_F h n ks i us zz) (wfL_M h n ks i us zz)) (hb : wfL_n h n ks Q fs m) : Good Tryd.prog A 0 fs m := by
 unfold wfL_n at hb
noncomputable def wd0_0 : List Value := [Value.int .i64 0, Value.int .i64 0, Value.slice none 0 0, Value.int .i64 0, Value.int .i64 0, Value.int .i64 0, Value.int .i64 0, Value.int .i64 0, Value.int .i64 0, Value.int .i64 0, Value.int .i64 0, Value.int .i64 0]
theorem wd0 (ws : Array Value) (h : Int) (o : Array Value) (e : Int) (Q : Int → Array Value → Array Value → Prop) : (run EJ4 1000 0 [callFr 56 Tryd.f56.ntmps [wtS ws, i64 (.o h)] (Tryd.f56.body.getD .skip)] e0M).vc (weA o e) (wdL_n h Q) =
  ((64 ≤ Array.size ws ∧ True) ∧ (WB (Array.extract ws 0 64) ∧ True) ∧ (decide (slW (Array.extract ws 0 64) h < 0) = true → (Array.size ws = 448 ∧ True) ∧ (Array.size ws = 448 ∧ Array.size ws = 448 ∧ True) ∧ (Array.size ws = 448 ∧ True) ∧ o = ws ∧ e = 4 ∧ True) ∧ (decide (slW (Array.extract ws 0 64) h < 0) = false → (64 ≤ Array.size ws ∧ True) ∧ (WB (Array.extract ws 0 64) ∧ True) ∧ (Array.size (voW (Array.extract ws 0 64) h) = 64 ∧ 0 + Array.size (voW (Array.extract ws 0 64) h) ≤ Array.size ws ∧ True) ∧ ((0 ≤ slW (Array.extract ws 0 64) h ∧ slW (Array.extract ws 0 64) h < 32) ∧ True) ∧ (64 + Int.toNat (slW (Array.extract ws 0 64) h) * 12 + 12 ≤ Array.size (putAt ws 0 (Array.toList (voW (Array.extract ws 0 64) h))) ∧ True) ∧ Q (0 : Int) (putAt (putAt ws 0 (Array.toList (voW (Array.extract ws 0 64) h))) (64 + Int.toNat (slW (Array.extract ws 0 64) h) * 12) (wd0_0)) zW ∧ CallKind.normal = CallKind.normal ∧ TodoOk (ren 0 [(0, 0), (1, 1)]) wdL_d0 wdL_d0 ∧ h = h ∧ (0 : Int) = (0 : Int) ∧ (51 : TypeId) = (51 : Nat) ∧ putAt (putAt ws 0 (Array.toList (voW (Array.extract ws 0 64) h))) (64 + Int.toNat (slW (Array.extract ws 0 64) h) * 12) (wd0_0) = putAt (putAt ws 0 (Array.toList (voW (Array.extract ws 0 64) h))) (64 + Int.toNat (slW (Array.extract ws 0 64) h) * 12) (wd0_0) ∧ (51 : TypeId) = (51 : Nat) ∧ zW = zW ∧ True)) := by kernel_rfl
theorem wd1 (h i : Int) (us zz : Array Value) (o : Array Value) (e : Int) (Q : Int → Array Value → Array Value → Prop) : (stepT EJ4.go (run EJ4 1000) 0 (wdL_F h i us zz) (wdL_M h i us zz)).vc (weA o e) (wdL_n h Q) =
  ((decide (i < 32) = true → ((0 ≤ i ∧ i < 32) ∧ True) ∧ (IsInt .i64 us (64 + Int.toNat i * 12) ∧ True) ∧ ((intAt us (64 + Int.toNat i * 12) == h) = true → ((0 ≤ i ∧ i < 32) ∧ True) ∧ (64 + Int.toNat i * 12 < Array.size us ∧ True) ∧ Q (ari .add .i64 i 1) (Array.setIfInBounds us (64 + Int.toNat i * 12) (Value.int .i64 0)) zz ∧ CallKind.normal = CallKind.normal ∧ TodoOk (ren 0 [(0, 0), (1, 1)]) wdL_d0 wdL_d0 ∧ h = h ∧ ari .add .i64 i 1 = ari .add .i64 i 1 ∧ (51 : TypeId) = (51 : TypeId) ∧ Array.setIfInBounds us (64 + Int.toNat i * 12) (Value.int .i64 0) = Array.setIfInBounds us (64 + Int.toNat i * 12) (Value.int .i64 0) ∧ (51 : TypeId) = (51 : TypeId) ∧ zz = zz ∧ True) ∧ ((intAt us (64 + Int.toNat i * 12) == h) = false → Q (ari .add .i64 i 1) us zz ∧ CallKind.normal = CallKind.normal ∧ TodoOk (ren 0 [(0, 0), (1, 1)]) wdL_d0 wdL_d0 ∧ h = h ∧ ari .add .i64 i 1 = ari .add .i64 i 1 ∧ (51 : TypeId) = (51 : TypeId) ∧ us = us ∧ (51 : TypeId) = (51 : TypeId) ∧ zz = zz ∧ True)) ∧ (decide (i < 32) = false → (Array.size us = 448 ∧ True) ∧ (Array.size us = 448 ∧ Array.size us = Array.size zz ∧ True) ∧ (Array.size us = 448 ∧ True) ∧ o = us ∧ e = 0 ∧ True)) := by kernel_rfl
noncomputable def wra_0 (ws : Array Value) (h : Int) (u : Int) : Array Value := Array.setIfInBounds ws (64 + Int.toNat (slW (Array.extract ws 0 (0 + 64)) h) * 12) (Value.int .i64 u)
noncomputable def wra_1 (ts : Array Value) (ws : Array Value) (h : Int) (u : Int) (o : Array Value) (e : Int) : Prop := ((u != 0) == true) = true → (((u == h) == false) = true → (Array.size ws = 448 ∧ True) ∧ (SW ts ws ∧ FIn ts ∧ (u = (0 : Int) ∨ gdF ts u = true) ∧ True) ∧ (abF ts h u = true → (Array.size ws = 448 ∧ True) ∧ (Array.size ws = 448 ∧ Array.size ws = 448 ∧ True) ∧ (Array.size ws = 448 ∧ True) ∧ o = ws ∧ e = 12 ∧ True) ∧ (abF ts h u = false → (0 + 64 ≤ Array.size ws ∧ True) ∧ (WB (Array.extract ws 0 (0 + 64)) ∧ True) ∧ ((0 ≤ slW (Array.extract ws 0 (0 + 64)) h ∧ slW (Array.extract ws 0 (0 + 64)) h < 32) ∧ True) ∧ (64 + Int.toNat (slW (Array.extract ws 0 (0 + 64)) h) * 12 < Array.size ws ∧ True) ∧ (Array.size (wra_0 ws h u) = 448 ∧ True) ∧ (Array.size (wra_0 ws h u) = 448 ∧ Array.size (wra_0 ws h u) = 448 ∧ True) ∧ (Array.size (wra_0 ws h u) = 448 ∧ True) ∧ o = Array.setIfInBounds ws (64 + Int.toNat (slW (Array.extract ws 0 (0 + 64)) h) * 12) (Value.int .i64 u) ∧ e = 0 ∧ True)) ∧ (((u == h) == false) = false → (Array.size ws = 448 ∧ True) ∧ (Array.size ws = 448 ∧ Array.size ws = 448 ∧ True) ∧ (Array.size ws = 448 ∧ True) ∧ o = ws ∧ e = 12 ∧ True)
noncomputable def wra_2 (ws : Array Value) (h : Int) (u : Int) (o : Array Value) (e : Int) : Prop := ((u != 0) == true) = false → (0 + 64 ≤ Array.size ws ∧ True) ∧ (WB (Array.extract ws 0 (0 + 64)) ∧ True) ∧ ((0 ≤ slW (Array.extract ws 0 (0 + 64)) h ∧ slW (Array.extract ws 0 (0 + 64)) h < 32) ∧ True) ∧ (64 + Int.toNat (slW (Array.extract ws 0 (0 + 64)) h) * 12 < Array.size ws ∧ True) ∧ (Array.size (wra_0 ws h u) = 448 ∧ True) ∧ (Array.size (wra_0 ws h u) = 448 ∧ Array.size (wra_0 ws h u) = 448 ∧ True) ∧ (Array.size (wra_0 ws h u) = 448 ∧ True) ∧ o = Array.setIfInBounds ws (64 + Int.toNat (slW (Array.extract ws 0 (0 + 64)) h) * 12) (Value.int .i64 u) ∧ e = 0 ∧ True
theorem wra (ts ws : Array Value) (h u : Int) (o : Array Value) (e : Int) : (run (EI3 ts) 1000 0 [callFr 58 Tryd.f58.ntmps [wtS ws, i64 (.o h), i64 (.o u)] (Tryd.f58.body.getD .skip)] e0M).vc (weA o e) (fun _ _ => False) =
  ((Array.size ws = 448 ∧ True) ∧ (SW ts ws ∧ TbOk ts ∧ True) ∧ (((!gdF ts h) == false) = true → (((u != 0) == true) = true → (Array.size ws = 448 ∧ True) ∧ (SW ts ws ∧ TbOk ts ∧ True) ∧ ((!gdF ts u) = true → (Array.size ws = 448 ∧ True) ∧ (Array.size ws = 448 ∧ Array.size ws = 448 ∧ True) ∧ (Array.size ws = 448 ∧ True) ∧ o = ws ∧ e = 4 ∧ True) ∧ ((!gdF ts u) = false → (wra_1 ts ws h u o e) ∧ (wra_2 ws h u o e))) ∧ (((u != 0) == true) = false → (wra_1 ts ws h u o e) ∧ (wra_2 ws h u o e))) ∧ (((!gdF ts h) == false) = false → (Array.size ws = 448 ∧ True) ∧ (Array.size ws = 448 ∧ Array.size ws = 448 ∧ True) ∧ (Array.size ws = 448 ∧ True) ∧ o = ws ∧ e = 4 ∧ True)) := by kernel_rfl
theorem wc0 (ts ws : Array Value) (h : Int) (n : Nat) (ks : Array Value) (o : Array Value) (e : Int) (Q : Int → Array Value → Array Value → Prop) : (run (EJ5 ts) 1000 0 [callFr 30 Tryd.f30.ntmps [wtS ws, i64 (.o h)] (Tryd.f30.body.getD .skip)] e0M).vc (weA o e) (wcO_n ws h n ks Q) =
  ((Array.size ws = 448 ∧ True) ∧ (SW ts ws ∧ TbOk ts ∧ True) ∧ ((!gdF ts h) = true → (Array.size ws = 448 ∧ True) ∧ (Array.size ws = 448 ∧ Array.size ws = 448 ∧ True) ∧ (Array.size ws = 448 ∧ True) ∧ o = ws ∧ e = 4 ∧ True) ∧ ((!gdF ts h) = false → (Array.size ws = 448 ∧ True) ∧ (Array.size ws = 448 ∧ Array.size ws = 448 ∧ True) ∧ (Array.size ws = 448 ∧ True) ∧ (SW ts ws ∧ FIn ts ∧ True) ∧ (decide (List.length (unT ts h) = 0) = true → False) ∧ (decide (List.length (unT ts h) = 0) = false → Q (0 : Int) ws zW ∧ CallKind.normal = CallKind.normal ∧ TodoOk (ren 0 [(0, 0), (1, 1), (2, 2), (3, 3)]) wcO_d0 wcO_d0 ∧ h = h ∧ n = List.length (unT ts h) ∧ (0 : Int) = (0 : Int) ∧ (51 : TypeId) = (51 : Nat) ∧ ws = ws ∧ (51 : TypeId) = (51 : Nat) ∧ zW = zW ∧ (3 : TypeId) = (3 : TypeId) ∧ ks = i64s (unT ts h) ∧ (51 : TypeId) = (51 : Nat) ∧ ws = ws ∧ True))) := by kernel_rfl
noncomputable def wcO_0 (ws : Array Value) (h : Int) (us : Array Value) : Array Value := Array.setIfInBounds us (64 + Int.toNat (slW (Array.extract ws 0 (0 + 64)) h) * 12) (Value.int .i64 0)
theorem wcO (ts ws : Array Value) (h : Int) (n : Nat) (ks : Array Value) (i : Int) (us zz : Array Value) (o : Array Value) (e : Int) (Q : Int → Int → Int → Array Value → Array Value → Prop) : (stepT (EJ5 ts).go (run (EJ5 ts) 1000) 0 (wcO_F ws h n ks i us zz) (wcO_M ws h n ks i us zz)).vc (weA o e) (wcI_n ws h n ks Q) =
  ((decide (i < (↑n : Int)) = true → (0 + 64 ≤ Array.size ws ∧ True) ∧ ((0 ≤ i ∧ i < (↑n : Int)) ∧ True) ∧ (IsInt .i64 ks (0 + Int.toNat i * 1) ∧ True) ∧ (WB (Array.extract ws 0 (0 + 64)) ∧ True) ∧ Q i (slW (Array.extract ws 0 (0 + 64)) (intAt ks (0 + Int.toNat i * 1))) (0 : Int) us zz ∧ CallKind.normal = CallKind.normal ∧ TodoOk (ren 0 [(0, 0), (1, 1), (2, 2), (3, 3)]) wcI_d0 wcI_d0 ∧ h = h ∧ n = n ∧ slW (Array.extract ws 0 (0 + 64)) (intAt ks (0 + Int.toNat i * 1)) = slW (Array.extract ws 0 (0 + 64)) (intAt ks (0 + Int.toNat i * 1)) ∧ i = i ∧ (0 : Int) = (0 : Int) ∧ (51 : TypeId) = (51 : TypeId) ∧ ws = ws ∧ (51 : TypeId) = (51 : TypeId) ∧ zz = zz ∧ (3 : TypeId) = (3 : TypeId) ∧ ks = ks ∧ (51 : TypeId) = (51 : TypeId) ∧ us = us ∧ True) ∧ (decide (i < (↑n : Int)) = false → (0 + 64 ≤ Array.size ws ∧ True) ∧ (WB (Array.extract ws 0 (0 + 64)) ∧ True) ∧ ((0 ≤ slW (Array.extract ws 0 (0 + 64)) h ∧ slW (Array.extract ws 0 (0 + 64)) h < 32) ∧ True) ∧ (64 + Int.toNat (slW (Array.extract ws 0 (0 + 64)) h) * 12 < Array.size us ∧ True) ∧ (Array.size (wcO_0 ws h us) = 448 ∧ True) ∧ (Array.size (wcO_0 ws h us) = 448 ∧ Array.size (wcO_0 ws h us) = Array.size zz ∧ True) ∧ (Array.size (wcO_0 ws h us) = 448 ∧ True) ∧ o = Array.setIfInBounds us (64 + Int.toNat (slW (Array.extract ws 0 (0 + 64)) h) * 12) (Value.int .i64 0) ∧ e = 0 ∧ True)) := by kernel_rfl
theorem wcI (ts ws : Array Value) (h : Int) (n : Nat) (ks : Array Value) (i k c : Int) (us zz : Array Value) (o : Array Value) (e : Int) (QO : Int → Array Value → Array Value → Prop) (QI : Int → Int → Int → Array Value → Array Value → Prop) : (stepT (EJ5 ts).go (run (EJ5 ts) 1000) 0 (wcI_F ws h n ks i k c us zz) (wcI_M ws h n ks i k c us zz)).vc (weA o e) (wcOI ws h n ks QO QI) =
  ((decide (c < 8) = true → ((0 ≤ k ∧ k < 32) ∧ True) ∧ ((0 ≤ c ∧ c < 8) ∧ True) ∧ (IsInt .i64 ws (64 + Int.toNat k * 12 + 4 + Int.toNat c * 1) ∧ True) ∧ (((intAt ws (64 + Int.toNat k * 12 + 4 + Int.toNat c * 1) != 0) == true) = true → (Array.size ws = 448 ∧ True) ∧ (SW ts ws ∧ FIn ts ∧ (h = (0 : Int) ∨ gdF ts h = true) ∧ True) ∧ (abF ts (intAt ws (64 + Int.toNat k * 12 + 4 + Int.toNat c * 1)) h = true → ((0 ≤ k ∧ k < 32) ∧ True) ∧ ((0 ≤ c ∧ c < 8) ∧ True) ∧ (64 + Int.toNat k * 12 + 4 + Int.toNat c * 1 < Array.size us ∧ True) ∧ QI i k (ari .add .i64 c 1) (Array.setIfInBounds us (64 + Int.toNat k * 12 + 4 + Int.toNat c * 1) (Value.int .i64 0)) zz ∧ CallKind.normal = CallKind.normal ∧ TodoOk (ren 0 [(0, 0), (1, 1), (2, 2), (3, 3)]) wcI_d0 wcI_d0 ∧ h = h ∧ n = n ∧ k = k ∧ i = i ∧ ari .add .i64 c 1 = ari .add .i64 c 1 ∧ (51 : TypeId) = (51 : TypeId) ∧ ws = ws ∧ (51 : TypeId) = (51 : TypeId) ∧ zz = zz ∧ (3 : TypeId) = (3 : TypeId) ∧ ks = ks ∧ (51 : TypeId) = (51 : TypeId) ∧ Array.setIfInBounds us (64 + Int.toNat k * 12 + 4 + Int.toNat c * 1) (Value.int .i64 0) = Array.setIfInBounds us (64 + Int.toNat k * 12 + 4 + Int.toNat c * 1) (Value.int .i64 0) ∧ True) ∧ (abF ts (intAt ws (64 + Int.toNat k * 12 + 4 + Int.toNat c * 1)) h = false → QI i k (ari .add .i64 c 1) us zz ∧ CallKind.normal = CallKind.normal ∧ TodoOk (ren 0 [(0, 0), (1, 1), (2, 2), (3, 3)]) wcI_d0 wcI_d0 ∧ h = h ∧ n = n ∧ k = k ∧ i = i ∧ ari .add .i64 c 1 = ari .add .i64 c 1 ∧ (51 : TypeId) = (51 : TypeId) ∧ ws = ws ∧ (51 : TypeId) = (51 : TypeId) ∧ zz = zz ∧ (3 : TypeId) = (3 : TypeId) ∧ ks = ks ∧ (51 : TypeId) = (51 : TypeId) ∧ us = us ∧ True)) ∧ (((intAt ws (64 + Int.toNat k * 12 + 4 + Int.toNat c * 1) != 0) == true) = false → QI i k (ari .add .i64 c 1) us zz ∧ CallKind.normal = CallKind.normal ∧ TodoOk (ren 0 [(0, 0), (1, 1), (2, 2), (3, 3)]) wcI_d0 wcI_d0 ∧ h = h ∧ n = n ∧ k = k ∧ i = i ∧ ari .add .i64 c 1 = ari .add .i64 c 1 ∧ (51 : TypeId) = (51 : TypeId) ∧ ws = ws ∧ (51 : TypeId) = (51 : TypeId) ∧ zz = zz ∧ (3 : TypeId) = (3 : TypeId) ∧ ks = ks ∧ (51 : TypeId) = (51 : TypeId) ∧ us = us ∧ True)) ∧ (decide (c < 8) = false → QO (ari .add .i64 i 1) us zz ∧ CallKind.normal = CallKind.normal ∧ TodoOk (ren 0 [(0, 0), (1, 1), (2, 2), (3, 3)]) wcO_d0 wcO_d0 ∧ h = h ∧ n = n ∧ ari .add .i64 i 1 = ari .add .i64 i 1 ∧ (51 : TypeId) = (51 : TypeId) ∧ ws = ws ∧ (51 : TypeId) = (51 : TypeId) ∧ zz = zz ∧ (3 : TypeId) = (3 : TypeId) ∧ ks = ks ∧ (51 : TypeId) = (51 : TypeId) ∧ us = us ∧ True)) := by kernel_rfl
theorem wg0 (ts us ws : Array Value) (h u : Int) (vs : Array Value) (n : Nat) (ks : Array Value) (o : Array Value) (e e' : Int) (Q : Int → Array Value → Prop) : (run (EJg ts us) 1000 0 [callFr 31 Tryd.f31.ntmps [wtS ws, i64 (.o h), i64 (.o u)] (Tryd.f31.body.getD .skip)] e0M).vc (weA o e) (wgL_n ws h u vs e' n ks Q) =
  ((Array.size ws = 448 ∧ True) ∧ (SW ts ws ∧ TbOk ts ∧ True) ∧ (((!gdF ts h) == false) = true → (Array.size ws = 448 ∧ True) ∧ (SW ts ws ∧ TbOk ts ∧ True) ∧ ((!gdF ts u) = true → (Array.size ws = 448 ∧ True) ∧ (Array.size ws = 448 ∧ Array.size ws = 448 ∧ True) ∧ (Array.size ws = 448 ∧ True) ∧ o = ws ∧ e = 4 ∧ True) ∧ ((!gdF ts u) = false → (Array.size ws = 448 ∧ True) ∧ (SW ts ws ∧ TbOk ts ∧ True) ∧ (((upF ts h != 0) == false) = true → (Array.size ws = 448 ∧ True) ∧ (SW ts ws ∧ FIn ts ∧ True) ∧ (outF ts h u = true → (Array.size ws = 448 ∧ True) ∧ (Array.size ws = 448 ∧ Array.size ws = 448 ∧ True) ∧ (Array.size ws = 448 ∧ True) ∧ o = ws ∧ e = 12 ∧ True) ∧ (outF ts h u = false → (Array.size ws = 448 ∧ True) ∧ (SW ts ws ∧ FIn ts ∧ True) ∧ (Array.size (raW ts ws h u) = 448 ∧ Array.size (raW ts ws h u) = 448 ∧ True) ∧ (Array.size (raW ts ws h u) = 448 ∧ True) ∧ (SW us (raW ts ws h u) ∧ FIn us ∧ True) ∧ (decide (List.length (unT us h) = 0) = true → False) ∧ (decide (List.length (unT us h) = 0) = false → Q (0 : Int) zW ∧ CallKind.normal = CallKind.normal ∧ TodoOk (ren 0 [(0, 0), (1, 1), (2, 2), (3, 3)]) wgL_d0 wgL_d0 ∧ h = h ∧ (0 : Int) = (0 : Int) ∧ e' = raE ts h u ∧ u = u ∧ n = List.length (unT us h) ∧ (51 : TypeId) = (51 : Nat) ∧ ws = ws ∧ (51 : TypeId) = (51 : Nat) ∧ zW = zW ∧ (3 : TypeId) = (3 : TypeId) ∧ ks = i64s (unT us h) ∧ (51 : TypeId) = (51 : Nat) ∧ vs = raW ts ws h u ∧ True))) ∧ (((upF ts h != 0) == false) = false → (Array.size ws = 448 ∧ True) ∧ (Array.size ws = 448 ∧ Array.size ws = 448 ∧ True) ∧ (Array.size ws = 448 ∧ True) ∧ o = ws ∧ e = 12 ∧ True))) ∧ (((!gdF ts h) == false) = false → (Array.size ws = 448 ∧ True) ∧ (Array.size ws = 448 ∧ Array.size ws = 448 ∧ True) ∧ (Array.size ws = 448 ∧ True) ∧ o = ws ∧ e = 4 ∧ True)) := by kernel_rfl
theorem wg1 (ts us ws : Array Value) (h u : Int) (vs : Array Value) (e' : Int) (n : Nat) (ks : Array Value) (i : Int) (zz : Array Value) (o : Array Value) (e : Int) (Q : Int → Array Value → Prop) : (stepT (EJg ts us).go (run (EJg ts us) 1000) 0 (wgL_F ws h u vs e' n ks i zz) (wgL_M ws h u vs e' n ks i zz)).vc (weA o e) (wgL_n ws h u vs e' n ks Q) =
  ((decide (i < (↑n : Int)) = true → (Array.size vs = 448 ∧ True) ∧ ((0 ≤ i ∧ i < (↑n : Int)) ∧ True) ∧ (IsInt .i64 ks (0 + Int.toNat i * 1) ∧ True) ∧ (SW us vs ∧ FIn us ∧ True) ∧ (decide ((↑(depF us (intAt ks (0 + Int.toNat i * 1))) : Int) > 6) = true → (Array.size ws = 448 ∧ True) ∧ (Array.size ws = 448 ∧ Array.size ws = Array.size zz ∧ True) ∧ (Array.size ws = 448 ∧ True) ∧ o = ws ∧ e = 8 ∧ True) ∧ (decide ((↑(depF us (intAt ks (0 + Int.toNat i * 1))) : Int) > 6) = false → Q (ari .add .i64 i 1) zz ∧ CallKind.normal = CallKind.normal ∧ TodoOk (ren 0 [(0, 0), (1, 1), (2, 2), (3, 3)]) wgL_d0 wgL_d0 ∧ h = h ∧ ari .add .i64 i 1 = ari .add .i64 i 1 ∧ e' = e' ∧ u = u ∧ n = n ∧ (51 : TypeId) = (51 : TypeId) ∧ ws = ws ∧ (51 : TypeId) = (51 : TypeId) ∧ zz = zz ∧ (3 : TypeId) = (3 : TypeId) ∧ ks = ks ∧ (51 : TypeId) = (51 : TypeId) ∧ vs = vs ∧ True)) ∧ (decide (i < (↑n : Int)) = false → (Array.size vs = 448 ∧ True) ∧ (Array.size vs = 448 ∧ Array.size vs = Array.size zz ∧ True) ∧ (Array.size vs = 448 ∧ True) ∧ o = vs ∧ e = e' ∧ True)) := by kernel_rfl
theorem wf0 (ts ws : Array Value) (h : Int) (n : Nat) (ks : Array Value) (o : Array Value) (Q : Int → Array Value → Array Value → Prop) : (run (EJ5 ts) 1000 0 [callFr 29 Tryd.f29.ntmps [wtS ws, i64 (.o h)] (Tryd.f29.body.getD .skip)] e0M).vc (wfA o n ks) (wfL_n h n ks Q) =
  ((Array.size ws = 448 ∧ True) ∧ (SW ts ws ∧ FIn ts ∧ True) ∧ (decide (List.length (unT ts h) = 0) = true → False) ∧ (decide (List.length (unT ts h) = 0) = false → Q (0 : Int) ws zW ∧ CallKind.normal = CallKind.normal ∧ TodoOk (ren 0 [(0, 0), (1, 1), (2, 2)]) wfL_d0 wfL_d0 ∧ h = h ∧ n = List.length (unT ts h) ∧ (0 : Int) = (0 : Int) ∧ (51 : TypeId) = (51 : Nat) ∧ ws = ws ∧ (51 : TypeId) = (51 : Nat) ∧ zW = zW ∧ (3 : TypeId) = (3 : TypeId) ∧ ks = i64s (unT ts h) ∧ True)) := by kernel_rfl
theorem wf0E (ts ws : Array Value) (h : Int) : (run (EJ5z ts) 1000 0 [callFr 29 Tryd.f29.ntmps [wtS ws, i64 (.o h)] (Tryd.f29.body.getD .skip)] e0M).vc (retOk 0 [] (wfN ws) e0M) (fun _ _ => False) =
  ((Array.size ws = 448 ∧ True) ∧ (SW ts ws ∧ FIn ts ∧ True) ∧ (decide (List.length (unT ts h) = 0) = true → (Array.size ws = 448 ∧ True) ∧ (Array.size ws = 448 ∧ Array.size ws = 448 ∧ True) ∧ (Array.size ws = 448 ∧ True) ∧ ws = ws ∧ Value.slice none 0 0 = Value.slice none 0 0 ∧ (4 : Int) = (4 : Int) ∧ True) ∧ (decide (List.length (unT ts h) = 0) = false → (decide ((0 : Int) < (↑(List.length (unT ts h)) : Int)) = true → False) ∧ (decide ((0 : Int) < (↑(List.length (unT ts h)) : Int)) = false → (((↑(List.length (unT ts h)) : Int) == 0) = true → (Array.size ws = 448 ∧ True) ∧ (Array.size ws = 448 ∧ Array.size ws = 448 ∧ True) ∧ (Array.size ws = 448 ∧ True) ∧ ws = ws ∧ Value.slice none 0 0 = Value.slice none 0 0 ∧ (4 : Int) = (4 : Int) ∧ True) ∧ (((↑(List.length (unT ts h)) : Int) == 0) = false → (Array.size ws = 448 ∧ True) ∧ (Array.size ws = 448 ∧ Array.size ws = 448 ∧ True) ∧ (Array.size ws = 448 ∧ True) ∧ False)))) := by kernel_rfl
theorem wf1 (ts : Array Value) (h : Int) (n : Nat) (ks : Array Value) (i : Int) (us zz : Array Value) (o : Array Value) (Q : Int → Array Value → Array Value → Prop) : (stepT (EJ5 ts).go (run (EJ5 ts) 1000) 0 (wfL_F h n ks i us zz) (wfL_M h n ks i us zz)).vc (wfA o n ks) (wfL_n h n ks Q) =
  ((decide (i < (↑n : Int)) = true → (Array.size us = 448 ∧ True) ∧ ((0 ≤ i ∧ i < (↑n : Int)) ∧ True) ∧ (IsInt .i64 ks (0 + Int.toNat i * 1) ∧ True) ∧ (WT us ∧ True) ∧ (Array.size (drW us (intAt ks (0 + Int.toNat i * 1))) = 448 ∧ Array.size (drW us (intAt ks (0 + Int.toNat i * 1))) = Array.size us ∧ True) ∧ Q (ari .add .i64 i 1) (drW us (intAt ks (0 + Int.toNat i * 1))) zz ∧ CallKind.normal = CallKind.normal ∧ TodoOk (ren 0 [(0, 0), (1, 1), (2, 2)]) wfL_d0 wfL_d0 ∧ h = h ∧ n = n ∧ ari .add .i64 i 1 = ari .add .i64 i 1 ∧ (51 : TypeId) = (51 : TypeId) ∧ drW us (intAt ks (0 + Int.toNat i * 1)) = drW us (intAt ks (0 + Int.toNat i * 1)) ∧ (51 : TypeId) = (51 : TypeId) ∧ zz = zz ∧ (3 : TypeId) = (3 : TypeId) ∧ ks = ks ∧ True) ∧ (decide (i < (↑n : Int)) = false → (((↑n : Int) == 0) = true → (Array.size us = 448 ∧ True) ∧ (Array.size us = 448 ∧ Array.size us = Array.size zz ∧ True) ∧ (Array.size us = 448 ∧ True) ∧ False) ∧ (((↑n : Int) == 0) = false → (Array.size us = 448 ∧ True) ∧ (Array.size us = 448 ∧ Array.size us = Array.size zz ∧ True) ∧ (Array.size us = 448 ∧ True) ∧ o = us ∧ n = n ∧ (0 : Int) = (0 : Int) ∧ (3 : TypeId) = (3 : TypeId) ∧ ks = ks ∧ True))) := by kernel_rfl
theorem SW.wt (w : SW ts ws) (hb : TbOk ts) : WT ws := by
 refine ⟨w.sz, w.wb hb, fun i hi => ?_⟩
 by_cases k : kindAt (bkB ts) i = 1
 ·exact isI_of (w.r i hi k 0 (by decide))
 ·exact isI_of (w.z i hi k 0 (by decide))
theorem drL_f (us : Array Value) (h : Int) (hz : us.size = 448) : ∀ n, n ≤ 32 → (drL us h n).size = 448 ∧ (∀ i, i < n → intAt us (64 + i * 12) = h → (drL us h n)[64 + i * 12]? = some (.int .i64 0)) ∧ ∀ j, (∀ i, i < n → j = 64 + i * 12 → intAt us j ≠ h) → (drL us h n)[j]? = us[j]?
 | 0, _ => ⟨hz, fun i hi => absurd hi (Nat.not_lt_zero _), fun j _ => rfl⟩
 | n + 1, hn => by
  obtain ⟨z, a, b⟩ := drL_f us h hz n (by omega)
  have e : intAt (drL us h n) (64 + n * 12) = intAt us (64 + n * 12) := by
   unfold intAt
   rw [b _ (fun i hi e => by omega)]
  show ((if intAt (drL us h n) (64 + n * 12) = h then (drL us h n).setIfInBounds (64 + n * 12) (.int .i64 0) else drL us h n).size = 448) ∧ (∀ i, i < n + 1 → intAt us (64 + i * 12) = h → (if intAt (drL us h n) (64 + n * 12) = h then (drL us h n).setIfInBounds (64 + n * 12) (.int .i64 0) else drL us h n)[64 + i * 12]? = some (.int .i64 0)) ∧ ∀ j, (∀ i, i < n + 1 → j = 64 + i * 12 → intAt us j ≠ h) → (if intAt (drL us h n) (64 + n * 12) = h then (drL us h n).setIfInBounds (64 + n * 12) (.int .i64 0) else drL us h n)[j]? = us[j]?
  by_cases c : intAt us (64 + n * 12) = h
  ·rw [if_pos c]
   refine ⟨by rw [Array.size_setIfInBounds]; exact z, fun i hi hh => ?_, fun j hj => ?_⟩
   ·by_cases d : i = n
    ·rw [d, Array.getElem?_setIfInBounds, if_pos rfl, if_pos (by rw [z]; omega)]
    ·rw [Array.getElem?_setIfInBounds, if_neg (by omega)]
     exact a i (by omega) hh
   ·have hne : 64 + n * 12 ≠ j := fun k => hj n (by omega) k.symm (by rw [← k]; exact c)
    rw [Array.getElem?_setIfInBounds, if_neg hne]
    exact b j fun i hi => hj i (by omega)
  ·rw [if_neg c]
   refine ⟨z, fun i hi hh => ?_, fun j hj => b j fun i hi => hj i (by omega)⟩
   by_cases d : i = n
   ·rw [d] at hh; exact absurd hh c
   ·exact a i (by omega) hh
theorem voW_size (hw : WB ws) (h : Int) : (voW ws h).size = 64 := by
 unfold voW
 ·exact hw.sz
  ·rw [Array.size_setIfInBounds, Array.size_setIfInBounds]; exact hw.sz
  ·rw [Array.size_setIfInBounds, Array.size_setIfInBounds]; exact hw.sz
theorem dr0_f (t : WT ws) {s : Nat} (hs : s < 32) (es : slW (ws.extract 0 64) h = (s : Int)) : (dr0 ws h).size = 448 ∧ (∀ j, j < 64 → (dr0 ws h)[j]? = (voW (ws.extract 0 64) h)[j]?) ∧ ∀ j c, j < 32 → c < 12 → (dr0 ws h)[64 + j * 12 + c]? = if j = s then zr12[c]? else ws[64 + j * 12 + c]? := by
 have hz := t.sz
 have vz := voW_size t.wb h
 have vl : (voW (ws.extract 0 64) h).toList.length = 64 := by rw [Array.length_toList, vz]
 have z0 : 0 + (voW (ws.extract 0 64) h).toList.length ≤ ws.size := by omega
 have z1 : (putAt ws 0 (voW (ws.extract 0 64) h).toList).size = 448 := by rw [putAt_size z0]; exact hz
 have zl : zr12.length = 12 := rfl
 have e : dr0 ws h = putAt (putAt ws 0 (voW (ws.extract 0 64) h).toList) (64 + s * 12) zr12 := by unfold dr0; rw [es, Int.toNat_natCast]
 have z2 : 64 + s * 12 + zr12.length ≤ (putAt ws 0 (voW (ws.extract 0 64) h).toList).size := by rw [z1, zl]; omega
 refine ⟨by rw [e, putAt_size z2]; exact z1, fun j hj => ?_, fun j c hj hc => ?_⟩
 ·rw [e, putAt_out z2 (.inl (by omega)), putAt_in z0 (Nat.zero_le _) (by omega), Nat.sub_zero, Array.getElem?_toList]
 ·rw [e]
  by_cases d : j = s
  ·rw [if_pos d, putAt_in z2 (by omega) (by rw [zl]; omega), d]
  ·rw [if_neg d, putAt_out z2 (by rw [zl]; omega), putAt_out z0 (by rw [vl]; omega)]
theorem dr0_up (t : WT ws) {s : Nat} (hs : s < 32) (es : slW (ws.extract 0 64) h = (s : Int)) {i : Nat} (hi : i < 32) : IsInt .i64 (dr0 ws h) (64 + i * 12) := by
 have := (dr0_f t hs es).2.2 i 0 hi (by decide)
 rw [Nat.add_zero] at this
 by_cases d : i = s
 ·rw [if_pos d] at this
  exact isI_of (n := 0) this
 ·rw [if_neg d] at this
  exact isI_of (this.trans (t.up i hi))
theorem conJ4_ok : ∀ g l m t, conJ4 g l m = some t → Con E0 g l m t := by
 unfold conJ4 at h
  refine Con.asked fun hq => Con.args (l' := [wbS ws, i64 (.o x.den)]) (fun R vs ha => by
  exact rvoid_con x.den m A ⟨fun p hp => hq p hp, hs⟩
 ·exact conI1_ok _ _ _ _ h
theorem EJ4_ok : EnvOk EJ4 := EnvOk.with E0_ok _ _ conJ4_ok
theorem wdL_ok {us zz : Array Value} (hz : us.size = 448) (hu : ∀ i, i < 32 → IsInt .i64 us (64 + i * 12)) (hzz : zz.size = 448) : ∀ (n i : Nat), i + n = 32 → Good Tryd.prog (weA (drL us h 32) 0) 0 (wdL_F h (i : Int) (drL us h i) zz) (wdL_M h (i : Int) (drL us h i) zz) := by
  obtain rfl : i = 32 := by omega
  obtain ⟨z, _, _⟩ := drL_f us h hz 32 (Nat.le_refl _)
  refine past_vc EJ4_ok 1000 (wd1 h _ _ zz (drL us h 32) 0 (fun _ _ _ => False)) ?_ (fun _ _ h => h) (fun fs m hb => wdL_good (fun _ _ _ h => h.elim) hb)
  have d : decide (((32 : Nat) : Int) < 32) = false := rfl
  simp only [d, z, hzz, q6]
  have hi' : i < 32 := by omega
  obtain ⟨z, a, b⟩ := drL_f us h hz i (by omega)
  refine past_vc EJ4_ok 1000 (wd1 h (i : Int) _ zz (drL us h 32) 0 (fun i' u z => i' = ((i + 1 : Nat) : Int) ∧ u = drL us h (i + 1) ∧ z = zz)) ?_ (fun _ _ h => h) (fun fs m hb => wdL_good (fun i' u z ⟨e1, e2, e3⟩ => by rw [e1, e2, e3]; exact ih (i + 1) (by omega)) hb)
  have d : decide ((i : Int) < 32) = true := decide_eq_true y1
  have g : IsInt .i64 (drL us h i) (64 + i * 12) := isI_of ((b _ (fun k hk e => by omega)).trans (hu i hi'))
  have y : 64 + i * 12 < 448 := by omega
  have eL : drL us h (i + 1) = if intAt (drL us h i) (64 + i * 12) = h then (drL us h i).setIfInBounds (64 + i * 12) (.int .i64 0) else drL us h i := rfl
  rw [eL]
  by_cases c : intAt (drL us h i) (64 + i * 12) = h
  ·have c1 : (intAt (drL us h i) (64 + i * 12) == h) = true := beq_iff_eq.2 c
   rw [if_pos c]
   simp only [Int.toNat_natCast, c1, y0, y1, d, ei, g, y, z, decide_true, wdL_d0_ok, q6]
  ·have c1 : (intAt (drL us h i) (64 + i * 12) == h) = false := beq_eq_false_iff_ne.2 c
   rw [if_neg c]
   simp only [Int.toNat_natCast, c1, y0, y1, d, ei, g, y, z, decide_true, wdL_d0_ok, q6]
theorem rdrop_con (h : Int) (m : SMem) : Con E0 56 [wtS ws, i64 (.o h)] m (needs [WT ws] (.ret (weS (drW ws h) (drE ws h)) m)) := by
 refine Con.pure E0_ok (by kernel_rfl : E0.fn 56 = some Tryd.f56) (by kernel_rfl : Tryd.f56.body = some (Tryd.f56.body.getD .skip)) (by kernel_rfl) (by kernel_rfl) fun hq => ?_
 have t : WT ws := hq _ (by simp)
 have hz := t.sz
 have wb := t.wb
 by_cases c : slW (ws.extract 0 64) h < 0
 ·refine (Good.ret [] (run_vc EJ4_ok 1000 (wd0 ws h (drW ws h) (drE ws h) (fun _ _ _ => False)) ?_ (fun s m h => h) fun fs m hb => wdL_good (fun _ _ _ h => h.elim) hb)).mono fun _ _ h => h.1
  unfold wd0_0
  have d : decide (slW (ws.extract 0 64) h < 0) = true := decide_eq_true c
  have e1 : drW ws h = ws := if_pos c
  have e2 : drE ws h = 4 := if_pos c
  simp only [d, e1, e2, hz, h64, wb, Bool.true_eq_false, true_implies, false_implies, and_true, true_and]
 ·have hlt : slW (ws.extract 0 64) h < 32 := slFrom_lt 32 0 rfl
  obtain ⟨s, es⟩ : ∃ j : Nat, slW (ws.extract 0 64) h = (j : Int) := ⟨(slW (ws.extract 0 64) h).toNat, by omega⟩
  have hs : s < 32 := by omega
  have e1 : drW ws h = drL (dr0 ws h) h 32 := if_neg c
  have e2 : drE ws h = 0 := if_neg c
  rw [e1, e2]
  refine (Good.ret [] (run_vc EJ4_ok 1000 (wd0 ws h (drL (dr0 ws h) h 32) 0 (fun i u z => i = ((0 : Nat) : Int) ∧ u = drL (dr0 ws h) h 0 ∧ z = zW)) ?_ (fun s m h => h) fun fs m hb => wdL_good (fun i u z ⟨a, b, d⟩ => by rw [a, b, d]; exact wdL_ok (dr0_f t hs es).1 (fun i hi => dr0_up t hs es hi) zW_sz 32 0 rfl) hb)).mono fun _ _ h => h.1
  unfold wd0_0
  have d : decide (slW (ws.extract 0 64) h < 0) = false := decide_eq_false c
  have vz := voW_size wb h
  have y0 : 0 ≤ slW (ws.extract 0 64) h := by omega
  have z0 : 0 + (voW (ws.extract 0 64) h).toList.length ≤ ws.size := by rw [Array.length_toList]; omega
  have z1 : (putAt ws 0 (voW (ws.extract 0 64) h).toList).size = 448 := by rw [putAt_size z0]; exact hz
  have y2 : 64 + (slW (ws.extract 0 64) h).toNat * 12 + 12 ≤ 448 := by omega
  simp only [d, vz, y0, hlt, z1, y2, hz, h64, wb, Nat.zero_add, wdL_d0_ok, q6]
  exact ⟨rfl, rfl⟩
theorem voW_f (hw : WB ws) {s : Nat} (hs : s < 32) (es : slW ws h = (s : Int)) : ∀ j, j < 32 → (voW ws h)[j]? = (if j = s ∧ gnW ws s ≠ 8388607 then some (.int .i64 (gnW ws s + 1)) else ws[j]?) ∧ (voW ws h)[32 + j]? = (if j = s then some (.int .i64 (if gnW ws s = 8388607 then 2 else 0)) else ws[32 + j]?) := by
 intro j hj
 unfold voW
 rw [if_neg (by omega), es, Int.toNat_natCast]
 by_cases c : gnW ws s = 8388607
 ·rw [if_pos c, if_neg (fun k => k.2 c), if_pos c]
  ·rw [Array.getElem?_setIfInBounds, if_neg (by omega), Array.getElem?_setIfInBounds, if_neg (by omega)]
  ·rw [Array.getElem?_setIfInBounds]
   by_cases d : j = s
   ·rw [if_pos d, if_pos (by omega), if_pos (by rw [Array.size_setIfInBounds]; omega)]
   ·rw [if_neg d, if_neg (by omega), Array.getElem?_setIfInBounds, if_neg (by omega)]
 ·rw [if_neg c, if_neg c]
  ·rw [Array.getElem?_setIfInBounds]
   by_cases d : j = s
   ·rw [if_pos d.symm, if_pos (show j = s ∧ gnW ws s ≠ 8388607 from ⟨d, c⟩), if_pos (by rw [Array.size_setIfInBounds]; omega)]
   ·rw [if_neg (fun k => d k.symm), if_neg (show ¬ (j = s ∧ gnW ws s ≠ 8388607) from fun k => d k.1), Array.getElem?_setIfInBounds, if_neg (by omega)]
  ·rw [Array.getElem?_setIfInBounds, if_neg (by omega), Array.getElem?_setIfInBounds]
   by_cases d : j = s
   ·rw [if_pos d, if_pos (by omega), if_pos (by omega)]
   ·rw [if_neg d, if_neg (by omega)]
theorem SW.drop (w : SW ts ws) (hb : TbOk ts) (h : Int) : SW (dropT ts h) (drW ws h) ∧ drE ws h = getX5 ts h := by
 have es := w.slot hb h
 have t := w.wt hb
  rw [if_neg (by rw [hg]; decide)] at es
  have e1 : drW ws h = ws := if_pos (by omega)
  have e2 : drE ws h = 4 := if_pos (by omega)
  have e3 : dropT ts h = ts := by unfold dropT; rw [hg]; rfl
  have e4 : getX5 ts h = 4 := by unfold getX5; rw [hg]; rfl
  rw [e1, e2, e3, e4]
  exact ⟨w, rfl⟩
  rw [if_pos hg] at es
  obtain ⟨_, _, h32, hk, hn, _, h1⟩ := good_f hb hg
  have e1 : drW ws h = drL (dr0 ws h) h 32 := if_neg (by omega)
  have e2 : drE ws h = 0 := if_neg (by omega)
  have e3 : dropT ts h = drT ts h := by unfold dropT; rw [hg]; rfl
  have e4 : getX5 ts h = 0 := by unfold getX5; rw [hg]; rfl
  rw [e1, e2, e3, e4]
  refine ⟨?_, rfl⟩
  obtain ⟨a1, a2, a3⟩ := dr0_f t h32 es
  obtain ⟨b1, b2, b3⟩ := drL_f (dr0 ws h) h a1 32 (Nat.le_refl _)
  have v := voW_f t.wb h32 es
  obtain ⟨d1, d2, d3, d4⟩ := drop_f hb hg
  have egn : gnW (ws.extract 0 64) (sl h) = ageAt (bkB ts) (sl h) := w.gn h32
  have evS : bkB (drT ts h) = voidS (bkB ts) (sl h) := by
   rw [d2]
   rcases void_cases hb.bk h with ⟨k, _⟩ | ⟨i, hi, _, e, _, ev⟩
   ·rw [show goodB (bkB ts) h = true from hg] at k; cases k
   ·rw [ev]
    have : sl h = i := by rw [e]; exact slotI_name hi (hb.bk.ra i hi)
    rw [this]
  have hbs := hb.bk.sz
  have ek : ∀ j, kindAt (bkB (drT ts h)) j = if j = sl h then (if ageAt (bkB ts) (sl h) = 8388607 then 2 else 0) else kindAt (bkB ts) j := fun j => by rw [evS]; exact void_kind hbs h32
  have ea : ∀ j, ageAt (bkB (drT ts h)) j = if j = sl h then (if ageAt (bkB ts) (sl h) = 8388607 then ageAt (bkB ts) (sl h) else ageAt (bkB ts) (sl h) + 1) else ageAt (bkB ts) j := fun j => by rw [evS]; exact void_age hbs h32
  have low : ∀ j, j < 64 → (drL (dr0 ws h) h 32)[j]? = (voW (ws.extract 0 64) h)[j]? := fun j hj => by
   rw [b3 j (fun i hi e => by omega)]
   exact a2 j hj
  refine ⟨b1, fun j hj => ?_, fun j hj => ?_, fun j hj hkj c hc => ?_, fun j hj hkj c hc => ?_⟩
  ·rw [low j (by omega), (v j hj).1, ea, egn]
   by_cases d : j = sl h
   ·by_cases k : ageAt (bkB ts) (sl h) = 8388607
    ·rw [if_neg (fun q => q.2 k), if_pos d, if_pos k, w.bk (by omega), d]
     exact w.g _ h32
    ·rw [if_pos ⟨d, k⟩, if_pos d, if_neg k]
   ·rw [if_neg (fun q => d q.1), if_neg d, w.bk (by omega)]
    exact w.g j hj
  ·rw [low (32 + j) (by omega), (v j hj).2, ek, egn]
   by_cases d : j = sl h
   ·rw [if_pos d, if_pos d]
   ·rw [if_neg d, if_neg d, w.bk (by omega)]
    exact w.s j hj
  ·rw [ek] at hkj
   by_cases d : j = sl h
   ·rw [if_pos d] at hkj
    split at hkj <;> exact absurd hkj (by decide)
   rw [if_neg d] at hkj
   have en : nmF (drT ts h) j = nmF ts j := by unfold nmF; rw [ea, if_neg d]
   rw [en]
   have gx : gdF ts (nmF ts j) = true := (goodB_iff hb.bk).2 ⟨j, hj, hkj, rfl⟩
   have hne : nmF ts j ≠ h := fun k => d (by rw [hn] at k; exact (name_inj hj h32 k).1)
   obtain ⟨q1, q2, q3⟩ := d4 _ gx hne
   have qu := drop_up hb hg gx hne
   have ar : ∀ c, c < 12 → (dr0 ws h)[64 + j * 12 + c]? = (rwF ts (nmF ts j))[c]? := fun c hc => by
    rw [a3 j c hj hc, if_neg d]
    exact w.r j hj hkj c hc
   have er : rwF (drT ts h) (nmF ts j) = rwA (if upF ts (nmF ts j) = h then 0 else upF ts (nmF ts j)) (quF ts (nmF ts j)) (ceF ts (nmF ts j)) := rwA_eq qu q2 q3
   have i0 : intAt (dr0 ws h) (64 + j * 12) = upF ts (nmF ts j) := intAt_of (ar 0 (by decide))
   by_cases hc0 : c = 0
   ·rw [hc0]
    by_cases k : upF ts (nmF ts j) = h
    ·rw [if_pos k]
     exact b2 j hj (i0.trans k)
    ·rw [if_neg k]
     rw [b3 _ (fun i hi e => by
      have : i = j := by omega
      rw [Nat.add_zero, i0]; exact k)]
     exact ar 0 (by decide)
   ·rw [b3 _ (fun i hi e => by omega), ar c hc]
    match c, hc, hc0 with
    | 1, _, _ | 2, _, _ | 3, _, _ | 4, _, _ | 5, _, _ | 6, _, _ | 7, _, _ | 8, _, _ | 9, _, _ | 10, _, _ | 11, _, _ => rfl
  ·have ar : ∀ c, c < 12 → (dr0 ws h)[64 + j * 12 + c]? = (rwA 0 0 fun _ => 0)[c]? := fun c hc => by
    rw [a3 j c hj hc]
    by_cases d : j = sl h
    ·rw [if_pos d]
     match c, hc with
     | 0, _ | 1, _ | 2, _ | 3, _ | 4, _ | 5, _ | 6, _ | 7, _ | 8, _ | 9, _ | 10, _ | 11, _ => rfl
    ·rw [if_neg d]
     rw [ek, if_neg d] at hkj
     exact w.z j hj hkj c hc
   have i0 : intAt (dr0 ws h) (64 + j * 12) = 0 := intAt_of (ar 0 (by decide))
   rw [b3 _ (fun i hi e => by
    by_cases hc0 : c = 0
    ·rw [hc0, Nat.add_zero, i0]; omega
    ·omega)]
   exact ar c hc
theorem SW.rows (w : SW ts ws) (hb : TbOk ts) {ts' ws' : Array Value} (e : bkB ts' = bkB ts) (sz : ws'.size = 448) (lo : ∀ j, j < 64 → ws'[j]? = ws[j]?) (r : ∀ x, gdF ts x = true → ∀ c, c < 12 → ws'[64 + sl x * 12 + c]? = (rwF ts' x)[c]?) (z : ∀ i, i < 32 → kindAt (bkB ts) i ≠ 1 → ∀ c, c < 12 → ws'[64 + i * 12 + c]? = ws[64 + i * 12 + c]?) : SW ts' ws' := by
 have en : ∀ i, nmF ts' i = nmF ts i := fun i => by unfold nmF; rw [e]
 refine ⟨sz, fun i hi => ?_, fun i hi => ?_, fun i hi hk c hc => ?_, fun i hi hk c hc => ?_⟩
 ·rw [lo i (by omega), e]; exact w.g i hi
 ·rw [lo (32 + i) (by omega), e]; exact w.s i hi
 ·rw [e] at hk
  have gx : gdF ts (nmF ts i) = true := (goodB_iff hb.bk).2 ⟨i, hi, hk, rfl⟩
  have es : sl (nmF ts i) = i := slotI_name hi (hb.bk.ra i hi)
  have := r _ gx c hc
  rw [es] at this
 ·rw [e] at hk
  rw [z i hi hk c hc]
  exact w.z i hi hk c hc
theorem sl_inj (hb : TbOk ts) {x y : Int} (hx : gdF ts x = true) (hy : gdF ts y = true) (e : sl x = sl y) : x = y := by
 obtain ⟨_, _, _, _, nx, _⟩ := good_f hb hx
 obtain ⟨_, _, _, _, ny, _⟩ := good_f hb hy
 rw [nx, ny, e]
theorem sl_dead (hb : TbOk ts) {x : Int} (hx : gdF ts x = true) {i : Nat} (hk : kindAt (bkB ts) i ≠ 1) : sl x ≠ i := fun e => by
 obtain ⟨_, _, _, k, _⟩ := good_f hb hx
 rw [e] at k
 exact hk k
theorem raU (hb : TbOk ts) (hg : gdF ts h = true) {u : Int} (hu : u = 0 ∨ gdF ts u = true) (hi : inH u) : ∀ x, gdF ts x = true → upF (raS ts h u) x = if x = h then u else upF ts x := by
 intro x hx
 obtain ⟨r1, r2, r3, r4, r5⟩ := raS_f hb hg hi
 ·rename_i c
  rw [c, gd_bk r2, gd_bk r2, r3, if_pos hg]
  rcases hu with k | k
  ·rw [k]; split <;> rfl
 ·rename_i c
  exact up_bk r2 (r4 x hx c)
theorem SW.raise (w : SW ts ws) (hb : TbOk ts) (hg : gdF ts h = true) {u : Int} (hu : u = 0 ∨ gdF ts u = true) : SW (raS ts h u) (ws.setIfInBounds (64 + sl h * 12) (.int .i64 u)) := by
 have hi : inH u := by
  rcases hu with k | k
  ·rw [k]; exact ⟨by decide, by decide⟩
  ·exact (good_f hb k).2.2.2.2.2.1
 obtain ⟨r1, r2, r3, r4, r5⟩ := raS_f hb hg hi
 have h32 := (good_f hb hg).2.2.1
 refine w.rows hb r2 (by rw [Array.size_setIfInBounds]; exact hz) (fun j hj => ?_) (fun x hx c hc => ?_) (fun i hi' hk c hc => ?_)
 ·have x32 := (good_f hb hx).2.2.1
  have er : rwF (raS ts h u) x = rwA (if x = h then u else upF ts x) (quF ts x) (ceF ts x) := rwA_eq (raU hb hg hu hi x hx) (r5 x).1 (fun k hk => (r5 x).2 k hk)
  rw [er, Array.getElem?_setIfInBounds]
  by_cases e : x = h
  ·rw [if_pos e, e]
   by_cases c0 : c = 0
   ·rw [c0, if_pos (by omega), if_pos (by omega)]
   ·rw [if_neg (by omega), w.cell hb hg hc]
    match c, hc, c0 with
  ·have : sl x ≠ sl h := fun k => e (sl_inj hb hx hg k)
   rw [if_neg e, if_neg (by omega), w.cell hb hx hc]
 ·have := sl_dead hb hg hk
  rw [Array.getElem?_setIfInBounds, if_neg (by omega)]
theorem ra_in (hf : FIn ts) {u : Int} (hu : u = 0 ∨ gdF ts u = true) : decide (h ∈ chL (upF ts) u) = ((u != 0) && ((u == h) || abF ts h u)) := by
 rcases hu with k | k
 ·rw [k, ch_zero]; rfl
 ·have hu := (lv_mem hf.ok).2 k
  have nz := hf.fo.nz u hu
  rw [bne_iff_ne.2 nz, Bool.true_and, ch_cons hf.fo hu]
  unfold abF
  cases c : (u == h) with
  | true => rw [Bool.true_or]; exact decide_eq_true (by rw [beq_iff_eq.1 c]; exact List.mem_cons_self ..)
   rw [Bool.false_or]
   refine decide_eq_decide.2 ⟨fun m => (List.mem_cons.1 m).resolve_left fun e => beq_eq_false_iff_ne.1 c e.symm, fun m => List.mem_cons_of_mem _ m⟩
theorem rraise_con (h u : Int) (m : SMem) : Con E0 58 [wtS ws, i64 (.o h), i64 (.o u)] m (needs [SW ts ws, FIn ts] (.ret (weS (raW ts ws h u) (raE ts h u)) m)) := by
 refine Con.pure E0_ok (by kernel_rfl : E0.fn 58 = some Tryd.f58) (by kernel_rfl : Tryd.f58.body = some (Tryd.f58.body.getD .skip)) (by kernel_rfl) (by kernel_rfl) fun hq => ?_
 have hle : 64 ≤ ws.size := by omega
 refine (Good.ret [] (run_vc (EI3_ok ts) 1000 (wra ts ws h u (raW ts ws h u) (raE ts h u)) ?_ (fun s m h => h) fun _ _ h => h.elim)).mono fun _ _ h => h.1
 unfold wra_2 wra_1 wra_0
 have bad : (gdF ts h = false ∨ (u ≠ 0 ∧ gdF ts u = false)) → raW ts ws h u = ws ∧ raE ts h u = 4 := fun k => by
  have e1 : raE ts h u = 4 := by unfold raE; rw [if_pos k]
  exact ⟨by unfold raW; rw [if_neg (by rw [e1]; decide)], e1⟩
  obtain ⟨e1, e2⟩ := bad (.inl hg)
  simp only [hz, w, hb, hf, hg, e1, e2, beqT, beqF, Bool.not_false, Bool.not_true, q6]
  have h32 := (good_f hb hg).2.2.1
  have y0 : (0 : Int) ≤ (sl h : Int) := by omega
  have y1 : (sl h : Int) < 32 := by omega
  have y2 : 64 + sl h * 12 < 448 := by omega
  by_cases hz0 : u = 0
  ·have c0 : (u != 0) = false := by rw [hz0]; rfl
   have n1 : ¬ (gdF ts h = false ∨ (u ≠ 0 ∧ gdF ts u = false)) := by rintro (k | ⟨k, _⟩); (rw [hg] at k; cases k); exact k hz0
   have n2 : h ∉ chL (upF ts) u := by rw [hz0, ch_zero]; exact List.not_mem_nil
   have e1 : raE ts h u = 0 := by unfold raE; rw [if_neg n1, if_neg n2]
   have e2 : raW ts ws h u = ws.setIfInBounds (64 + sl h * 12) (.int .i64 u) := by unfold raW; rw [if_pos e1]
   simp only [hz, h64, hle, wb, w, hb, hf, hg, es, e1, e2, c0, y0, y1, y2, Int.toNat_natCast, Nat.zero_add, Array.size_setIfInBounds, beqT, beqF, Bool.not_false, Bool.not_true, q6]
  ·have c0 : (u != 0) = true := bne_iff_ne.2 hz0
   cases hgu : gdF ts u with
    obtain ⟨e1, e2⟩ := bad (.inr ⟨hz0, hgu⟩)
    simp only [hz, w, hb, hf, hg, hgu, e1, e2, c0, beqT, beqF, Bool.not_false, Bool.not_true, q6]
    have n1 : ¬ (gdF ts h = false ∨ (u ≠ 0 ∧ gdF ts u = false)) := by
     rintro (k | ⟨_, k⟩)
     ·rw [hg] at k; cases k
     ·rw [hgu] at k; cases k
    have hin := ra_in (h := h) hf (.inr hgu)
    rw [c0, Bool.true_and] at hin
    cases c1 : (u == h) with
     rw [c1, Bool.true_or] at hin
     have e1 : raE ts h u = 12 := by unfold raE; rw [if_neg n1, if_pos (of_decide_eq_true hin)]
     have e2 : raW ts ws h u = ws := by unfold raW; rw [if_neg (by rw [e1]; decide)]
     simp only [hz, w, hb, hf, hg, hgu, e1, e2, c0, c1, beqT, beqF, Bool.not_false, Bool.not_true, q6]
     rw [c1, Bool.false_or] at hin
     cases c2 : abF ts h u with
      rw [c2] at hin
      have e1 : raE ts h u = 12 := by unfold raE; rw [if_neg n1, if_pos (of_decide_eq_true hin)]
      have e2 : raW ts ws h u = ws := by unfold raW; rw [if_neg (by rw [e1]; decide)]
      simp only [hz, w, hb, hf, hg, hgu, e1, e2, c0, c1, c2, beqT, beqF, or_true, Bool.not_false, Bool.not_true, q6]
      rw [c2] at hin
      have e1 : raE ts h u = 0 := by unfold raE; rw [if_neg n1, if_neg (of_decide_eq_false hin)]
      have e2 : raW ts ws h u = ws.setIfInBounds (64 + sl h * 12) (.int .i64 u) := by unfold raW; rw [if_pos e1]
      simp only [hz, h64, hle, wb, w, hb, hf, hg, hgu, es, e1, e2, c0, c1, c2, y0, y1, y2, Int.toNat_natCast, Nat.zero_add, Array.size_setIfInBounds, beqT, beqF, or_true, Bool.not_false, Bool.not_true, q6]
structure RwOk (rr : Array Value) : Prop where
 sz : rr.size = 12
 q : IsInt .i64 rr 1
 hq : 0 ≤ intAt rr 1 ∧ intAt rr 1 ≤ 64
 r : rr[2]? = some (.slice none 0 0)
 l : IsInt .i64 rr 3
 hl : intAt rr 3 = 0
 c : ∀ k, k < 8 → IsInt .i64 rr (4 + k)
def seW (ts ws : Array Value) (h : Int) (rr : Array Value) : Array Value := if gdF ts h = true then putAt ws (64 + sl h * 12) (rwA (upF ts h) (intAt rr 1) fun k => intAt rr (4 + k)).toList else ws
theorem rset_con {rr : Array Value} (h : Int) (m : SMem) : Con E0 33 [wtS ws, i64 (.o h), wtS rr] m (needs [SW ts ws, TbOk ts, RwOk rr] (.ret (weS (seW ts ws h rr) (getX5 ts h)) m)) := by
 refine Con.pure E0_ok (by kernel_rfl : E0.fn 33 = some Tryd.f33) (by kernel_rfl : Tryd.f33.body = some (Tryd.f33.body.getD .skip)) (by kernel_rfl) (by kernel_rfl) fun hq => ?_
 have rk : RwOk rr := hq _ (by simp)
 refine (Good.ret [] (run_vc EI1_ok 1000 (se0 ws h rr (seW ts ws h rr) (getX5 ts h)) ?_ (fun s m h => h) fun _ _ h => h.elim)).mono fun _ _ h => h.1
 unfold se0_2 se0_1 se0_0
  have d : decide (slW (ws.extract 0 64) h < 0) = true := decide_eq_true (by omega)
  have e1 : seW ts ws h rr = ws := by unfold seW; rw [hg]; rfl
  have e2 : getX5 ts h = 4 := by unfold getX5; rw [hg]; rfl
  simp only [hz, h64, wb, d, e1, e2, Bool.true_eq_false, true_implies, false_implies, and_true, true_and]
  have h32 := (good_f hb hg).2.2.1
  have y0 : (0 : Int) ≤ (sl h : Int) := by omega
  have y1 : (sl h : Int) < 32 := by omega
  have d : decide ((sl h : Int) < 0) = false := decide_eq_false (by omega)
  have c0 : ws[64 + sl h * 12]? = some (.int .i64 (upF ts h)) := w.cell hb hg (j := 0) (by decide)
  have e1 : seW ts ws h rr = putAt ws (64 + sl h * 12) (rwA (upF ts h) (intAt rr 1) fun k => intAt rr (4 + k)).toList := by unfold seW; rw [hg]; rfl
  have e2 : getX5 ts h = 0 := by unfold getX5; rw [hg]; rfl
  have rz := rk.sz
  have n0 : (rr.setIfInBounds 0 (.int .i64 (upF ts h)))[0]? = some (.int .i64 (upF ts h)) := by rw [Array.getElem?_setIfInBounds, if_pos rfl, if_pos (by omega)]
  have z : ∀ j, j ≠ 0 → (rr.setIfInBounds 0 (.int .i64 (upF ts h)))[j]? = rr[j]? := fun j hj => by rw [Array.getElem?_setIfInBounds, if_neg (fun k => hj k.symm)]
  have zi : ∀ j, j ≠ 0 → IsInt .i64 rr j → (IsInt .i64 (rr.setIfInBounds 0 (.int .i64 (upF ts h))) j ∧ intAt (rr.setIfInBounds 0 (.int .i64 (upF ts h))) j = intAt rr j) := fun j hj k => by
   have := (z j hj).trans k
   exact ⟨isI_of this, intAt_of this⟩
  have q1 := rk.q
  have q3 := rk.l
  have n2 := rk.r
  have n2' : (rr.setIfInBounds 0 (.int .i64 (upF ts h)))[2]? = some (.slice none 0 0) := by rw [z 2 (by decide)]; exact n2
  have l3 := rk.hl
  have d1 : decide (intAt rr 1 < 0) = false := decide_eq_false (by have := rk.hq.1; omega)
  have d2 : decide (intAt rr 1 > 64) = false := decide_eq_false (by have := rk.hq.2; omega)
  have d3 : decide ((0 : Int) ≥ 0) = true := rfl
  have d4 : decide ((0 : Int) ≤ 0) = true := rfl
  have y3 : 0 < 12 := by decide
  have zl : (rwA (upF ts h) (intAt rr 1) fun k => intAt rr (4 + k)).toList.length = 12 := rfl
  have z2 : 64 + sl h * 12 + (rwA (upF ts h) (intAt rr 1) fun k => intAt rr (4 + k)).toList.length ≤ ws.size := by rw [zl]; omega
  have z3 : (putAt ws (64 + sl h * 12) (rwA (upF ts h) (intAt rr 1) fun k => intAt rr (4 + k)).toList).size = 448 := by rw [putAt_size z2]; exact hz
  have ef : putAt ws (64 + sl h * 12) [Value.int .i64 (upF ts h), Value.int .i64 (intAt rr 1), Value.slice none 0 0, Value.int .i64 0, Value.int .i64 (intAt rr 4), Value.int .i64 (intAt rr 5), Value.int .i64 (intAt rr 6), Value.int .i64 (intAt rr 7), Value.int .i64 (intAt rr 8), Value.int .i64 (intAt rr 9), Value.int .i64 (intAt rr 10), Value.int .i64 (intAt rr 11)] = putAt ws (64 + sl h * 12) (rwA (upF ts h) (intAt rr 1) fun k => intAt rr (4 + k)).toList := rfl
  obtain ⟨p1, p1'⟩ := zi 1 (by decide) q1
  obtain ⟨p3, p3'⟩ := zi 3 (by decide) q3
  obtain ⟨p4, p4'⟩ := zi 4 (by decide) (rk.c 0 (by decide))
  obtain ⟨p5, p5'⟩ := zi 5 (by decide) (rk.c 1 (by decide))
  obtain ⟨p6, p6'⟩ := zi 6 (by decide) (rk.c 2 (by decide))
  obtain ⟨p7, p7'⟩ := zi 7 (by decide) (rk.c 3 (by decide))
  obtain ⟨p8, p8'⟩ := zi 8 (by decide) (rk.c 4 (by decide))
  obtain ⟨p9, p9'⟩ := zi 9 (by decide) (rk.c 5 (by decide))
  obtain ⟨p10, p10'⟩ := zi 10 (by decide) (rk.c 6 (by decide))
  obtain ⟨p11, p11'⟩ := zi 11 (by decide) (rk.c 7 (by decide))
  have y4 : 64 + sl h * 12 + 12 ≤ 448 := by omega
  simp only [hz, h64, wb, d, es, y0, y1, y3, y4, rz, q1, q3, n2, n2', l3, d1, d2, d3, d4, Int.toNat_natCast, isI_of c0, intAt_of c0, isI_of n0, intAt_of n0, p1, p1', p3, p3', p4, p4', p5, p5', p6, p6', p7, p7', p8, p8', p9, p9', p10, p10', p11, p11', e1, e2, ef, z3, List.length_cons, List.length_nil, beqT, beqF, Bool.not_true, Bool.not_false, q6]
theorem SW.set (w : SW ts ws) (hb : TbOk ts) (hg : gdF ts h = true) {rp rr : Array Value} (hr : RgOk rp 0) (e1 : intAt rr 1 = intAt rp 1) (e2 : ∀ k, k < 8 → intAt rr (4 + k) = intAt rp (4 + k)) : SW (setT ts h rp) (seW ts ws h rr) := by
 obtain ⟨r1, r2, r3, r4, r5⟩ := set_f hb hg hr
 have h32 := (good_f hb hg).2.2.1
 have eW : seW ts ws h rr = putAt ws (64 + sl h * 12) (rwA (upF ts h) (intAt rr 1) fun k => intAt rr (4 + k)).toList := by unfold seW; rw [hg]; rfl
 have zl : (rwA (upF ts h) (intAt rr 1) fun k => intAt rr (4 + k)).toList.length = 12 := rfl
 have z2 : 64 + sl h * 12 + (rwA (upF ts h) (intAt rr 1) fun k => intAt rr (4 + k)).toList.length ≤ ws.size := by rw [zl]; omega
 rw [eW]
 refine w.rows hb r2 (by rw [putAt_size z2]; exact hz) (fun j hj => ?_) (fun x hx c hc => ?_) (fun i hi' hk c hc => ?_)
 ·rw [putAt_out z2 (.inl (by omega))]
 ·have x32 := (good_f hb hx).2.2.1
  have eu : upF (setT ts h rp) x = upF ts x := up_bk r2 (r3 x hx)
  by_cases e : x = h
  ·rw [e] at eu ⊢
   have er : rwF (setT ts h rp) h = rwA (upF ts h) (intAt rr 1) (fun k => intAt rr (4 + k)) := rwA_eq eu (r4.1.trans e1.symm) (fun k hk => (r4.2 k hk).trans (e2 k hk).symm)
   rw [er, putAt_in z2 (by omega) (by rw [zl]; omega), Array.getElem?_toList]
  ·have : sl x ≠ sl h := fun k => e (sl_inj hb hx hg k)
   have er : rwF (setT ts h rp) x = rwF ts x := rwA_eq eu (r5 x hx e).1 (r5 x hx e).2
   rw [er, putAt_out z2 (by rw [zl]; omega)]
   exact w.cell hb hx hc
 ·have := sl_dead hb hg hk
  rw [putAt_out z2 (by rw [zl]; omega)]
theorem conJ5_ok (ts : Array Value) : ∀ g l m t, conJ5 ts g l m = some t → Con E0 g l m t := by
 unfold conJ5 at h
  exact rdrop_con x.den m A ⟨fun p hp => hq p hp, hs⟩
  exact rraise_con a.den x.den m A ⟨fun p hp => hq p hp, hs⟩
  exact runder_con x.den m A ⟨fun p hp => hq p hp, hs⟩
theorem EJ5_ok (ts : Array Value) : EnvOk (EJ5 ts) := EnvOk.with E0_ok _ _ (conJ5_ok ts)
theorem EJ5z_ok (ts : Array Value) : EnvOk (EJ5z ts) := EnvOk.with E0_ok _ _ (conJ5_ok ts)
def cuB (ts : Array Value) (h x : Int) (k : Nat) : Bool := (ceF ts x k != 0) && abF ts (ceF ts x k) h
def cuC (ts : Array Value) (h x : Int) (us : Array Value) : Nat → Array Value
 | c + 1 => if cuB ts h x c = true then (cuC ts h x us c).setIfInBounds (64 + sl x * 12 + 4 + c) (.int .i64 0) else cuC ts h x us c
def cuL (ts : Array Value) (h : Int) (us : Array Value) (l : List Int) : Array Value := l.foldl (fun u x => cuC ts h x u 8) us
theorem cuL_one (us : Array Value) (l : List Int) (x : Int) : cuL ts h us (l ++ [x]) = cuC ts h x (cuL ts h us l) 8 := by unfold cuL; rw [List.foldl_append]; rfl
noncomputable def cuW (ts ws : Array Value) (h : Int) : Array Value := if gdF ts h = true then (cuL ts h ws (unT ts h)).setIfInBounds (64 + sl h * 12) (.int .i64 0) else ws
theorem cuC_f {x : Int} (hx : sl x < 32) {us : Array Value} (hz : us.size = 448) : ∀ c, c ≤ 8 → (cuC ts h x us c).size = 448 ∧ (∀ k, k < c → (cuC ts h x us c)[64 + sl x * 12 + 4 + k]? = if cuB ts h x k = true then some (.int .i64 0) else us[64 + sl x * 12 + 4 + k]?) ∧ ∀ j, (∀ k, k < c → j ≠ 64 + sl x * 12 + 4 + k) → (cuC ts h x us c)[j]? = us[j]?
 | 0, _ => ⟨hz, fun k hk => absurd hk (Nat.not_lt_zero _), fun j _ => rfl⟩
 | c + 1, hc => by
  obtain ⟨z, a, b⟩ := cuC_f hx hz c (by omega)
  have e : cuC ts h x us (c + 1) = if cuB ts h x c = true then (cuC ts h x us c).setIfInBounds (64 + sl x * 12 + 4 + c) (.int .i64 0) else cuC ts h x us c := rfl
  by_cases k : cuB ts h x c = true
   refine ⟨by rw [Array.size_setIfInBounds]; exact z, fun j hj => ?_, fun j hj => ?_⟩
   ·by_cases d : j = c
    ·rw [d, if_pos k, Array.getElem?_setIfInBounds, if_pos rfl, if_pos (by omega)]
     exact a j (by omega)
   ·rw [Array.getElem?_setIfInBounds, if_neg (fun q => hj c (by omega) q.symm)]
   refine ⟨z, fun j hj => ?_, fun j hj => b j fun i hi => hj i (by omega)⟩
   by_cases d : j = c
   ·rw [d, if_neg k]
    exact b _ fun i hi => by omega
   ·exact a j (by omega)
theorem cuL_f (hb : TbOk ts) : ∀ (l : List Int) {us : Array Value}, us.size = 448 → (∀ x ∈ l, gdF ts x = true) → (cuL ts h us l).size = 448 ∧ (∀ y, gdF ts y = true → ∀ k, k < 8 → (cuL ts h us l)[64 + sl y * 12 + 4 + k]? = if y ∈ l ∧ cuB ts h y k = true then some (.int .i64 0) else us[64 + sl y * 12 + 4 + k]?) ∧ ∀ j, (∀ y, gdF ts y = true → ∀ k, k < 8 → j ≠ 64 + sl y * 12 + 4 + k) → (cuL ts h us l)[j]? = us[j]?
 | [], us, hz, _ => ⟨hz, fun y _ k _ => by rw [if_neg (fun q => by cases q.1)]; rfl, fun j _ => rfl⟩
 | x :: l, us, hz, hl => by
  have gx := hl x (List.mem_cons_self ..)
  have x32 := (good_f hb gx).2.2.1
  obtain ⟨z, a, b⟩ := cuC_f (ts := ts) (h := h) x32 hz 8 (Nat.le_refl _)
  obtain ⟨z2, a2, b2⟩ := cuL_f hb l z fun y hy => hl y (List.mem_cons_of_mem _ hy)
  have e : cuL ts h us (x :: l) = cuL ts h (cuC ts h x us 8) l := rfl
  refine ⟨z2, fun y hy k hk => ?_, fun j hj => ?_⟩
  ·rw [a2 y hy k hk]
   by_cases c : y = x
   ·rw [c, a k hk]
    by_cases d : cuB ts h x k = true
    ·rw [if_pos d, if_pos (show x ∈ x :: l ∧ cuB ts h x k = true from ⟨List.mem_cons_self .., d⟩)]
     split <;> rfl
    ·rw [if_neg d, if_neg (fun q => d q.2), if_neg (fun q => d q.2)]
   ·have hne : sl y ≠ sl x := fun q => c (sl_inj hb hy gx q)
    rw [b _ (fun i hi => by omega)]
    by_cases d : y ∈ l ∧ cuB ts h y k = true
    ·rw [if_pos d, if_pos (show y ∈ x :: l ∧ cuB ts h y k = true from ⟨List.mem_cons_of_mem _ d.1, d.2⟩)]
    ·rw [if_neg d, if_neg (fun q => d ⟨(List.mem_cons.1 q.1).resolve_left c, q.2⟩)]
  ·rw [b2 j hj]
   exact b j (hj x gx)
theorem wcOI_good {n : Nat} {ks : Array Value} {A : SV → SMem → Prop} {QO : Int → Array Value → Array Value → Prop} {QI : Int → Int → Int → Array Value → Array Value → Prop} {fs : List SFr} {m : SMem} (hO : ∀ i us zz, QO i us zz → Good Tryd.prog A 0 (wcO_F ws h n ks i us zz) (wcO_M ws h n ks i us zz)) (hI : ∀ i k c us zz, QI i k c us zz → Good Tryd.prog A 0 (wcI_F ws h n ks i k c us zz) (wcI_M ws h n ks i k c us zz)) (hb : wcOI ws h n ks QO QI fs m) : Good Tryd.prog A 0 fs m := by
 unfold wcOI at hb
 ·exact wcO_good hO hb
 ·exact wcI_good hI hb
theorem wcI_ok (w : SW ts ws) (hf : FIn ts) (hg : gdF ts h = true) {x : Int} (gx : gdF ts x = true) {n : Nat} {ks zz us O : Array Value} (hz : us.size = 448) {i : Nat} (hi : i < 1000) (hO : Good Tryd.prog (weA O 0) 0 (wcO_F ws h n ks ((i + 1 : Nat) : Int) (cuC ts h x us 8) zz) (wcO_M ws h n ks ((i + 1 : Nat) : Int) (cuC ts h x us 8) zz)) : ∀ (r c : Nat), c + r = 8 → Good Tryd.prog (weA O 0) 0 (wcI_F ws h n ks (i : Int) (sl x : Int) (c : Int) (cuC ts h x us c) zz) (wcI_M ws h n ks (i : Int) (sl x : Int) (c : Int) (cuC ts h x us c) zz) := by
 have x32 := (good_f hb gx).2.2.1
 intro r
 induction r with
  intro c hc
  obtain rfl : c = 8 := by omega
  refine past_vc (EJ5_ok ts) 1000 (wcI ts ws h n ks (i : Int) (sl x : Int) _ _ zz O 0 (fun i' u z => i' = ((i + 1 : Nat) : Int) ∧ u = cuC ts h x us 8 ∧ z = zz) (fun _ _ _ _ _ => False)) ?_ (fun _ _ h => h) (fun fs m hb => wcOI_good (fun i' u z ⟨a, b, c⟩ => by rw [a, b, c]; exact hO) (fun _ _ _ _ _ h => h.elim) hb)
  have d : decide (((8 : Nat) : Int) < 8) = false := rfl
  simp only [d, ei, wcO_d0_ok, q6]
 | succ r ih =>
  intro c hc
  have hc' : c < 8 := by omega
  obtain ⟨z, a, b⟩ := cuC_f (ts := ts) (h := h) x32 hz c (by omega)
  refine past_vc (EJ5_ok ts) 1000 (wcI ts ws h n ks (i : Int) (sl x : Int) (c : Int) _ zz O 0 (fun _ _ _ => False) (fun i' k' c' u z => i' = (i : Int) ∧ k' = (sl x : Int) ∧ c' = ((c + 1 : Nat) : Int) ∧ u = cuC ts h x us (c + 1) ∧ z = zz)) ?_ (fun _ _ h => h) (fun fs m hb => wcOI_good (fun _ _ _ h => h.elim) (fun i' k' c' u z ⟨e1, e2, e3, e4, e5⟩ => by rw [e1, e2, e3, e4, e5]; exact ih (c + 1) (by omega)) hb)
  have d : decide ((c : Int) < 8) = true := decide_eq_true (by omega)
  have ei : ari .add .i64 (c : Int) 1 = ((c + 1 : Nat) : Int) := by rw [ari_add, i64_in' (by omega) (by omega)]; omega
  have y0 : 0 ≤ (sl x : Int) := by omega
  have y1 : (sl x : Int) < 32 := by omega
  have y2 : 0 ≤ (c : Int) := by omega
  have y3 : (c : Int) < 8 := by omega
  have y4 : 64 + sl x * 12 + 4 + c < 448 := by omega
  have cc : ws[64 + sl x * 12 + 4 + c]? = some (.int .i64 (ceF ts x c)) := by
   rw [Nat.add_assoc, w.cell hb gx (by omega)]
   match c, hc' with
   | 0, _ | 1, _ | 2, _ | 3, _ | 4, _ | 5, _ | 6, _ | 7, _ => rfl
  have e : cuC ts h x us (c + 1) = if cuB ts h x c = true then (cuC ts h x us c).setIfInBounds (64 + sl x * 12 + 4 + c) (.int .i64 0) else cuC ts h x us c := rfl
  unfold cuB
  cases c1 : (ceF ts x c != 0) with
   rw [Bool.false_and, if_neg Bool.false_ne_true]
   simp only [Int.toNat_natCast, Nat.mul_one, isI_of cc, intAt_of cc, c1, d, ei, y0, y1, y2, y3, beqT, beqF, decide_true, wcI_d0_ok, q6]
   rw [Bool.true_and]
   cases c2 : abF ts (ceF ts x c) h with
    rw [if_neg Bool.false_ne_true]
    simp only [Int.toNat_natCast, Nat.mul_one, isI_of cc, intAt_of cc, c1, c2, d, ei, y0, y1, y2, y3, hs, w, hf, hg, or_true, beqT, beqF, decide_true, wcI_d0_ok, q6]
    rw [if_pos rfl]
    simp only [Int.toNat_natCast, Nat.mul_one, isI_of cc, intAt_of cc, c1, c2, d, ei, y0, y1, y2, y3, y4, z, hs, w, hf, hg, or_true, beqT, beqF, decide_true, wcI_d0_ok, q6]
theorem wcO_ok (w : SW ts ws) (hf : FIn ts) (hg : gdF ts h = true) {zz : Array Value} (hzz : zz.size = 448) : ∀ (r i : Nat), i + r = (unT ts h).length → Good Tryd.prog (weA (cuW ts ws h) 0) 0 (wcO_F ws h (unT ts h).length (i64s (unT ts h)) (i : Int) (cuL ts h ws ((unT ts h).take i)) zz) (wcO_M ws h (unT ts h).length (i64s (unT ts h)) (i : Int) (cuL ts h ws ((unT ts h).take i)) zz) := by
 have hu32 : (unT ts h).length ≤ 32 := by rw [hun]; exact un_32 hf hx
 have hall : ∀ x ∈ unT ts h, gdF ts x = true := fun x hm => (lv_mem hb).1 (un_sub hf.fo h hx x (by rw [hun] at hm; exact hm)).1
 intro r
 induction r with
  obtain rfl : i = (unT ts h).length := by omega
  obtain ⟨z, _, _⟩ := cuL_f (h := h) hb (unT ts h) hs hall
  have es := w.slot hb h
  refine past_vc (EJ5_ok ts) 1000 (wcO ts ws h _ _ _ _ zz (cuW ts ws h) 0 (fun _ _ _ _ _ => False)) ?_ (fun _ _ h => h) (fun fs m hb => wcI_good (fun _ _ _ _ _ h => h.elim) hb)
  unfold wcO_0
  have d : decide (((unT ts h).length : Int) < ((unT ts h).length : Int)) = false := decide_eq_false (by omega)
  have h64 : (64 : Nat) ≤ 448 := by decide
  have e : cuW ts ws h = (cuL ts h ws (unT ts h)).setIfInBounds (64 + sl h * 12) (.int .i64 0) := if_pos hg
  simp only [d, es, y0, y1, y2, e, z, hs, hzz, h64, wb, List.take_length, Int.toNat_natCast, Nat.zero_add, Array.size_setIfInBounds, q6]
 | succ r ih =>
  have hi' : i < (unT ts h).length := by omega
  have gx := hall ((unT ts h).getD i 0) (by rw [List.getD_eq_getElem?_getD, List.getElem?_eq_getElem hi']; exact List.getElem_mem hi')
  obtain ⟨z, _, _⟩ := cuL_f (h := h) hb ((unT ts h).take i) hs fun x hm => hall x (List.mem_of_mem_take hm)
  refine past_vc (EJ5_ok ts) 1000 (wcO ts ws h _ _ (i : Int) _ zz (cuW ts ws h) 0 (fun i' k' c' u z => i' = (i : Int) ∧ k' = (sl ((unT ts h).getD i 0) : Int) ∧ c' = ((0 : Nat) : Int) ∧ u = cuL ts h ws ((unT ts h).take i) ∧ z = zz)) ?_ (fun _ _ h => h) (fun fs m hb => wcI_good (fun i' k' c' u zz' ⟨a, b, c, d, e⟩ => by
   rw [a, b, c, d, e]
   have := ih (i + 1) (by omega)
   rw [take_one hi', cuL_one] at this
   exact wcI_ok w hf hg gx z (by omega) this 8 0 rfl) hb)
  unfold wcO_0
  have es := w.slot hb ((unT ts h).getD i 0)
  rw [if_pos gx] at es
  have d : decide ((i : Int) < ((unT ts h).length : Int)) = true := decide_eq_true (by omega)
  have g1 : IsInt .i64 (i64s (unT ts h)) i := isI_of (i64s_at hi')
  have g2 : intAt (i64s (unT ts h)) i = (unT ts h).getD i 0 := intAt_of (i64s_at hi')
  have y1 : (i : Int) < ((unT ts h).length : Int) := by omega
  have h64 : (64 : Nat) ≤ 448 := by decide
  simp only [d, es, g1, g2, y0, y1, hs, h64, wb, Int.toNat_natCast, Nat.mul_one, Nat.zero_add, decide_true, wcI_d0_ok, q6]
theorem rcut_con (h : Int) (m : SMem) : Con E0 30 [wtS ws, i64 (.o h)] m (needs [SW ts ws, FIn ts] (.ret (weS (cuW ts ws h) (cutE ts h)) m)) := by
 refine Con.pure E0_ok (by kernel_rfl : E0.fn 30 = some Tryd.f30) (by kernel_rfl : Tryd.f30.body = some (Tryd.f30.body.getD .skip)) (by kernel_rfl) (by kernel_rfl) fun hq => ?_
  refine (Good.ret [] (run_vc (EJ5_ok ts) 1000 (wc0 ts ws h 0 #[] (cuW ts ws h) (cutE ts h) (fun _ _ _ => False)) ?_ (fun s m h => h) fun fs m hb => wcO_good (fun _ _ _ h => h.elim) hb)).mono fun _ _ h => h.1
  have e1 : cuW ts ws h = ws := by unfold cuW; rw [hg]; rfl
  have e2 : cutE ts h = 4 := by unfold cutE; rw [hg]; rfl
  simp only [hz, w, hb, hg, e1, e2, Bool.not_false, q6]
  have d : decide ((unT ts h).length = 0) = false := decide_eq_false (by rw [hun, unl_cons hf hx, List.length_cons]; omega)
  have e2 : cutE ts h = 0 := by unfold cutE; rw [hg]; rfl
  rw [e2]
  refine (Good.ret [] (run_vc (EJ5_ok ts) 1000 (wc0 ts ws h (unT ts h).length (i64s (unT ts h)) (cuW ts ws h) 0 (fun i u z => i = ((0 : Nat) : Int) ∧ u = cuL ts h ws ((unT ts h).take 0) ∧ z = zW)) ?_ (fun s m h => h) fun fs m hb => wcO_good (fun i u z ⟨a, b, c⟩ => by rw [a, b, c]; exact wcO_ok w hf hg zW_sz (unT ts h).length 0 (by omega)) hb)).mono fun _ _ h => h.1
  simp only [hz, w, hb, hf, hg, d, Bool.not_true, wcO_d0_ok, q6]
theorem cuB_cl (hf : FIn ts) (hg : gdF ts h = true) {x : Int} {k : Nat} : (if cuB ts h x k = true then 0 else ceF ts x k) = clC ts h (ceF ts x k) := by
 unfold clC cuB
 rw [out_ab hf, hg, Bool.true_and]
 generalize ceF ts x k = c
 cases ha : abF ts c h with
  rw [Bool.and_false, if_neg Bool.false_ne_true, Bool.or_false]
  ·rename_i q
   have := q.2
   simp only [Bool.and_eq_true, beq_iff_eq] at this
   exact absurd this.2 q.1
  have hm : c ∈ chL (upF ts) (upF ts h) := of_decide_eq_true ha
  have hl := ch_sub hf.fo (upF ts h) (up_cl hf hx) c hm
  have gc := (lv_mem hb).1 hl
  have hne : c ≠ h := fun e => by
   have nd := ch_nodup hf.fo h (.inr hx)
   rw [ch_cons hf.fo hx] at nd
   exact (List.nodup_cons.1 nd).1 (by rw [e] at hm; exact hm)
  rw [bne_iff_ne.2 (hf.fo.nz c hl), gc, Bool.or_true]
  simp [hne]
theorem SW.cut (w : SW ts ws) (hf : FIn ts) : SW (cutT ts h) (cuW ts ws h) := by
  have e1 : cuW ts ws h = ws := by unfold cuW; rw [hg]; rfl
  have e2 : cutT ts h = ts := by unfold cutT; rw [hg]; rfl
  rw [e1, e2]; exact w
  have hs := w.sz
  obtain ⟨k1, k2, k3, k4, k5⟩ := cut_in hf hg
  have hl : h ∈ lvT ts := (lv_mem hb).2 hg
  have elv := lv_bk k2
  have hl' : h ∈ lvT (raS ts h 0) := by rw [elv]; exact hl
  have eT : cutT ts h = cuN ts h (raS ts h 0) (UNL (raS ts h 0) h) := if_pos hg
  obtain ⟨c1, c2, c3⟩ := cu_f (ts := ts) (h := h) (UNL (raS ts h 0) h) k1.ok (fun x hx => (lv_mem k1.ok).1 (un_sub k1.fo h hl' x hx).1)
  obtain ⟨r1, r2, r3, r4, r5⟩ := raS_f (u := 0) hb hg ⟨by decide, by decide⟩
  have ebk := c2.trans k2
  have hall : ∀ x ∈ unT ts h, gdF ts x = true := fun x hm => (lv_mem hb).1 (un_sub hf.fo h hl x (by rw [hun] at hm; exact hm)).1
  obtain ⟨z, a, b⟩ := cuL_f (h := h) hb (unT ts h) hs hall
  have e1 : cuW ts ws h = (cuL ts h ws (unT ts h)).setIfInBounds (64 + sl h * 12) (.int .i64 0) := if_pos hg
  rw [e1, eT]
  refine w.rows hb ebk (by rw [Array.size_setIfInBounds]; exact z) (fun j hj => ?_) (fun x hx c hc => ?_) (fun i hi' hk c hc => ?_)
  ·rw [Array.getElem?_setIfInBounds, if_neg (by omega), b j (fun y hy k hk => by omega)]
  ·have x32 := (good_f hb hx).2.2.1
   have gx' : gdF (raS ts h 0) x = true := by rw [gd_bk k2]; exact hx
   obtain ⟨d1, d2, d3⟩ := c3 x gx'
   have eu : upF (cuN ts h (raS ts h 0) (UNL (raS ts h 0) h)) x = if x = h then 0 else upF ts x := (up_bk c2 d1).trans (raU hb hg (.inl rfl) ⟨by decide, by decide⟩ x hx)
   have hm : x ∈ UNL (raS ts h 0) h ↔ x ∈ unT ts h := by
    rw [hun, un_mem k1.fo hl', un_mem hf.fo hl, elv]
    exact ⟨fun q => ⟨q.1, (k4 x (.inr q.1)).1 q.2⟩, fun q => ⟨q.1, (k4 x (.inr q.1)).2 q.2⟩⟩
   have ec : ∀ k, k < 8 → ceF (cuN ts h (raS ts h 0) (UNL (raS ts h 0) h)) x k = if x ∈ unT ts h ∧ cuB ts h x k = true then 0 else ceF ts x k := fun k hk => by
    rw [d3 k hk, (r5 x).2 k hk, ← cuB_cl hf hg]
    by_cases q : x ∈ unT ts h
    ·rw [if_pos (hm.2 q)]
     by_cases p : cuB ts h x k = true
     ·rw [if_pos p, if_pos ⟨q, p⟩]
     ·rw [if_neg p, if_neg (fun s => p s.2)]
    ·rw [if_neg (fun s => q (hm.1 s)), if_neg (fun s => q s.1)]
   have er : rwF (cuN ts h (raS ts h 0) (UNL (raS ts h 0) h)) x = rwA (if x = h then 0 else upF ts x) (quF ts x) (fun k => if x ∈ unT ts h ∧ cuB ts h x k = true then 0 else ceF ts x k) := rwA_eq eu (d2.trans (r5 x).1) ec
   by_cases hc4 : c < 4
   ·by_cases e : x = h
    ·rw [Array.getElem?_setIfInBounds, e]
     by_cases c0 : c = 0
     ·rw [c0, if_pos (by omega), if_pos (by omega)]
      rw [if_pos rfl]
      rfl
     ·rw [if_neg (by omega), b _ (fun y hy k hk => by omega), w.cell hb hg hc]
      match c, hc4, c0 with
      | 1, _, _ | 2, _, _ | 3, _, _ => rfl
    ·have : sl x ≠ sl h := fun k => e (sl_inj hb hx hg k)
     rw [Array.getElem?_setIfInBounds, if_neg (by omega), b _ (fun y hy k hk => by omega), w.cell hb hx hc, if_neg e]
     match c, hc4 with
     | 0, _ | 1, _ | 2, _ | 3, _ => rfl
   ·obtain ⟨k, rfl⟩ : ∃ k, c = 4 + k := ⟨c - 4, by omega⟩
    have hk : k < 8 := by omega
    rw [Array.getElem?_setIfInBounds, if_neg (by omega), ← Nat.add_assoc, a x hx k hk, Nat.add_assoc, w.cell hb hx hc]
    have e3 : (rwF ts x)[4 + k]? = some (.int .i64 (ceF ts x k)) := by
     match k, hk with
     | 0, _ | 1, _ | 2, _ | 3, _ | 4, _ | 5, _ | 6, _ | 7, _ => rfl
    have e4 : (rwA (if x = h then 0 else upF ts x) (quF ts x) (fun k => if x ∈ unT ts h ∧ cuB ts h x k = true then 0 else ceF ts x k))[4 + k]? = some (.int .i64 (if x ∈ unT ts h ∧ cuB ts h x k = true then 0 else ceF ts x k)) := by
     match k, hk with
     | 0, _ | 1, _ | 2, _ | 3, _ | 4, _ | 5, _ | 6, _ | 7, _ => rfl
    rw [e3, e4]
    split <;> rfl
  ·have hd := sl_dead hb hg hk
   rw [Array.getElem?_setIfInBounds, if_neg (by omega)]
   refine b _ (fun y hy k hk' => ?_)
   have := sl_dead hb hy hk
variable {ts ws : Array Value} {h u : Int}
theorem conJg_ok (ts us : Array Value) : ∀ g l m t, conJg ts us g l m = some t → Con E0 g l m t := by
 unfold conJg at h
 ·exact conJ5_ok ts _ _ _ _ h
theorem EJg_ok (ts us : Array Value) : EnvOk (EJg ts us) := EnvOk.with E0_ok _ _ (conJg_ok ts us)
theorem gr_us (hv : FV ts) (hg : gdF ts h = true) (hgu : gdF ts u = true) (h0r : upF ts h = 0) (hnot : h ∉ chL (upF ts) u) : FIn (raS ts h u) ∧ bkB (raS ts h u) = bkB ts ∧ (∀ y, y ∈ unT (raS ts h u) h ↔ y ∈ UNL ts h) ∧ ∀ y ∈ unT (raS ts h u) h, depF (raS ts h u) y = depF ts y + depF ts u := by
 have hl := (lv_mem hb).2 hg
 have hlu := (lv_mem hb).2 hgu
 have hi : inH u := (good_f hb hgu).2.2.2.2.2.1
 obtain ⟨r1, r2, r3, r4, r5⟩ := raS_f (u := u) hb hg hi
 have h0 : upF (raS ts h u) h = u := by unfold upF; rw [gd_bk r2, gd_bk r2, r3, if_pos hg, if_pos hgu]
 have hsm : ∀ x ∈ lvT ts, x ≠ h → upF (raS ts h u) x = upF ts x := fun x hx hne => up_bk r2 (r4 x ((lv_mem hb).1 hx) hne)
 obtain ⟨f1, f2, f3⟩ := graft_ch hf.fo hl h0r hlu hnot h0 hsm (fun x hx hc => by have := hv.d x hx; have := hv.d u hlu; omega)
 have elv := lv_bk r2
 have hF : FIn (raS ts h u) := ⟨r1, by rw [elv]; exact f1⟩
 have eU : unT (raS ts h u) h = UNL (raS ts h u) h := if_pos (by rw [gd_bk r2]; exact hg)
 have hl' : h ∈ lvT (raS ts h u) := by rw [elv]; exact hl
 have hm : ∀ y, y ∈ unT (raS ts h u) h ↔ y ∈ UNL ts h := fun y => by
  rw [eU, un_mem hF.fo hl', un_mem hf.fo hl, elv]
  ·rintro ⟨a, b⟩
   refine ⟨a, ?_⟩
   by_cases c : h ∈ chL (upF ts) y
   ·exact c
   ·rw [f2 y (.inr a) c] at b; exact b
  ·rintro ⟨a, b⟩
   exact ⟨a, by rw [f3 y (.inr a) b]; exact List.mem_append_left _ b⟩
 refine ⟨hF, r2, hm, fun y hy => ?_⟩
 obtain ⟨a, b⟩ := (un_mem hf.fo hl).1 ((hm y).1 hy)
 have ga := (lv_mem hb).1 a
 unfold depF
 rw [if_pos (by rw [gd_bk r2]; exact ga), if_pos ga, if_pos hgu]
 unfold depL
 rw [f3 y (.inr a) b, List.length_append]
noncomputable def grW (ts ws : Array Value) (h u : Int) : Array Value := if grE ts h u = 0 then ws.setIfInBounds (64 + sl h * 12) (.int .i64 u) else ws
theorem wgL_ok (ts : Array Value) (hw : ws.size = 448) {vs us : Array Value} (hu : SW us vs) (hF : FIn us) {U : List Int} (hU : U = unT us h) (hl : U.length ≤ 32) {zz : Array Value} (hzz : zz.size = 448) {o : Array Value} {e : Int} (ho : (∀ x ∈ U, depF us x ≤ 6) → o = vs ∧ e = 0) (hn : (¬ ∀ x ∈ U, depF us x ≤ 6) → o = ws ∧ e = 8) : ∀ (r i : Nat), i + r = U.length → (∀ j, j < i → depF us (U.getD j 0) ≤ 6) → Good Tryd.prog (weA o e) 0 (wgL_F ws h u vs 0 U.length (i64s U) (i : Int) zz) (wgL_M ws h u vs 0 U.length (i64s U) (i : Int) zz) := by
 have hvs := hu.sz
  intro i hi hj
  obtain rfl : i = U.length := by omega
  obtain ⟨e1, e2⟩ := ho fun x hx => by
   obtain ⟨j, hj', rfl⟩ := List.getElem_of_mem hx
   have := hj j hj'
   rw [List.getD_eq_getElem?_getD, List.getElem?_eq_getElem hj'] at this
  refine past_vc (EJg_ok ts us) 1000 (wg1 ts us ws h u vs 0 _ _ _ zz o e (fun _ _ => False)) ?_ (fun _ _ h => h) (fun fs m hb => wgL_good (fun _ _ h => h.elim) hb)
  have d : decide ((U.length : Int) < (U.length : Int)) = false := decide_eq_false (by omega)
  simp only [d, e1, e2, hvs, hzz, q6]
  intro i hi hj
  have hi' : i < U.length := by omega
  refine past_vc (EJg_ok ts us) 1000 (wg1 ts us ws h u vs 0 _ _ (i : Int) zz o e (fun i' z => i' = ((i + 1 : Nat) : Int) ∧ z = zz ∧ depF us (U.getD i 0) ≤ 6)) ?_ (fun _ _ h => h) (fun fs m hb => wgL_good (fun i' z ⟨e1, e2, e3⟩ => by
   rw [e1, e2]
   refine ih (i + 1) (by omega) fun j hj' => ?_
   by_cases c : j = i
   ·rw [c]; exact e3
   ·exact hj j (by omega)) hb)
  have d : decide ((i : Int) < (U.length : Int)) = true := decide_eq_true (by omega)
  have g1 : IsInt .i64 (i64s U) i := isI_of (i64s_at hi')
  have g2 : intAt (i64s U) i = U.getD i 0 := intAt_of (i64s_at hi')
  have y1 : (i : Int) < (U.length : Int) := by omega
  by_cases c : depF us (U.getD i 0) ≤ 6
  ·have d2 : decide ((depF us (U.getD i 0) : Int) > 6) = false := decide_eq_false (by omega)
   simp only [Int.toNat_natCast, Nat.mul_one, Nat.zero_add, d, ei, g1, g2, y0, y1, c, d2, hvs, hu, hF, decide_true, wgL_d0_ok, q6]
  ·have d2 : decide ((depF us (U.getD i 0) : Int) > 6) = true := decide_eq_true (by omega)
   obtain ⟨e1, e2⟩ := hn fun k => c (k _ (by rw [List.getD_eq_getElem?_getD, List.getElem?_eq_getElem hi']; exact List.getElem_mem hi'))
   simp only [Int.toNat_natCast, Nat.mul_one, Nat.zero_add, d, ei, g1, g2, y0, y1, d2, e1, e2, hvs, hw, hzz, hu, hF, decide_true, q6]
theorem rgraft_con (h u : Int) (m : SMem) : Con E0 31 [wtS ws, i64 (.o h), i64 (.o u)] m (needs [SW ts ws, FV ts] (.ret (weS (grW ts ws h u) (grE ts h u)) m)) := by
 refine Con.pure E0_ok (by kernel_rfl : E0.fn 31 = some Tryd.f31) (by kernel_rfl : Tryd.f31.body = some (Tryd.f31.body.getD .skip)) (by kernel_rfl) (by kernel_rfl) fun hq => ?_
 have no : ∀ e, grE ts h u = e → e ≠ 0 → grW ts ws h u = ws := fun e k1 k2 => if_neg (by rw [k1]; exact k2)
 by_cases n1 : gdF ts h = false ∨ gdF ts u = false
 ·have e2 : grE ts h u = 4 := if_pos n1
  have e1 := no 4 e2 (by decide)
  refine (Good.ret [] (run_vc (EJg_ok ts ts) 1000 (wg0 ts ts ws h u #[] 0 #[] (grW ts ws h u) (grE ts h u) 0 (fun _ _ => False)) ?_ (fun s m h => h) fun fs m hb => wgL_good (fun _ _ h => h.elim) hb)).mono fun _ _ h => h.1
  | false => simp only [hz, w, hb, hg, e1, e2, beqT, beqF, Bool.not_false, Bool.not_true, q6]
   have hgu : gdF ts u = false := n1.resolve_left (by rw [hg]; decide)
   simp only [hz, w, hb, hg, hgu, e1, e2, beqT, beqF, Bool.not_false, Bool.not_true, q6]
 ·have hg : gdF ts h = true := by cases c : gdF ts h with | true => rfl | false => exact absurd (.inl c) n1
  have hgu : gdF ts u = true := by cases c : gdF ts u with | true => rfl | false => exact absurd (.inr c) n1
  have hl := (lv_mem hb).2 hg
  have er : rtF ts h = rtL (upF ts) h := if_pos hg
  by_cases n2 : rtF ts h ≠ h ∨ outF ts h u = true
  ·have e2 : grE ts h u = 12 := by unfold grE; rw [if_neg n1, if_pos n2]
   have e1 := no 12 e2 (by decide)
   refine (Good.ret [] (run_vc (EJg_ok ts ts) 1000 (wg0 ts ts ws h u #[] 0 #[] (grW ts ws h u) (grE ts h u) 0 (fun _ _ => False)) ?_ (fun s m h => h) fun fs m hb => wgL_good (fun _ _ h => h.elim) hb)).mono fun _ _ h => h.1
   by_cases c : upF ts h = 0
   ·have c1 : (upF ts h != 0) = false := by rw [c]; rfl
    have ho : outF ts h u = true := n2.resolve_left (fun k => k (by rw [er]; exact (rt_root hf.fo hl).2 c))
    simp only [hz, w, hb, hf, hg, hgu, c1, ho, e1, e2, beqT, beqF, Bool.not_false, Bool.not_true, q6]
   ·have c1 : (upF ts h != 0) = true := bne_iff_ne.2 c
    simp only [hz, w, hb, hf, hg, hgu, c1, e1, e2, beqT, beqF, Bool.not_false, Bool.not_true, q6]
  ·rw [not_or] at n2
   have hr : rtF ts h = h := Decidable.not_not.1 n2.1
   have ho : outF ts h u = false := by cases c : outF ts h u with | true => exact absurd c n2.2 | false => rfl
   have h0r : upF ts h = 0 := (rt_root hf.fo hl).1 (by rw [← er]; exact hr)
   have hnot : h ∉ chL (upF ts) u := fun k => by
    have : outF ts h u = true := by unfold outF; rw [hgu, decide_eq_true k]; rfl
    rw [ho] at this; cases this
   have n3 : ¬ (rtF ts h ≠ h ∨ outF ts h u = true) := fun k => k.elim n2.1 n2.2
   have eG : grE ts h u = (open Classical in if gr6 ts h u then 0 else 8) := by unfold grE; rw [if_neg n1, if_neg n3]
   obtain ⟨g1, g2, g3, g4⟩ := gr_us hv hg hgu h0r hnot
   have hra : raE ts h u = 0 := by
    unfold raE
    rw [if_neg (by
     ·rw [hgu] at k; cases k), if_neg hnot]
   have eV : raW ts ws h u = ws.setIfInBounds (64 + sl h * 12) (.int .i64 u) := if_pos hra
   have sv : SW (raS ts h u) (raW ts ws h u) := by rw [eV]; exact w.raise hb hg (.inr hgu)
   have szv := sv.sz
   have hun : unT (raS ts h u) h = UNL (raS ts h u) h := if_pos (by rw [gd_bk g2]; exact hg)
   have hl' : h ∈ lvT (raS ts h u) := by rw [lv_bk g2]; exact hl
   have hu32 : (unT (raS ts h u) h).length ≤ 32 := by rw [hun]; exact un_32 g1 hl'
   have d : decide ((unT (raS ts h u) h).length = 0) = false := decide_eq_false (by rw [hun, unl_cons g1 hl', List.length_cons]; omega)
   have h6 : gr6 ts h u ↔ ∀ x ∈ unT (raS ts h u) h, depF (raS ts h u) x ≤ 6 := by
    constructor
    ·intro k x hx
     rw [g4 x hx]
     exact k x ((g3 x).1 hx)
    ·intro k y hy
     have hy' := (g3 y).2 hy
     rw [← g4 y hy']
     exact k y hy'
   refine (Good.ret [] (run_vc (EJg_ok ts (raS ts h u)) 1000 (wg0 ts (raS ts h u) ws h u (raW ts ws h u) (unT (raS ts h u) h).length (i64s (unT (raS ts h u) h)) (grW ts ws h u) (grE ts h u) 0 (fun i z => i = ((0 : Nat) : Int) ∧ z = zW)) ?_ (fun s m h => h) fun fs m hb => wgL_good (fun i z ⟨a, b⟩ => by
    rw [a, b]
    exact wgL_ok ts (o := grW ts ws h u) (e := grE ts h u) hz sv g1 rfl hu32 zW_sz (fun k => by
     have e0 : grE ts h u = 0 := by rw [eG, if_pos (h6.2 k)]
     exact ⟨by rw [eV]; exact if_pos e0, e0⟩) (fun k => by
     have e0 : grE ts h u = 8 := by rw [eG, if_neg (fun q => k (h6.1 q))]
     exact ⟨no 8 e0 (by decide), e0⟩) _ 0 (Nat.zero_add _) (fun j hj => absurd hj (Nat.not_lt_zero _))) hb)).mono fun _ _ h => h.1
   have c1 : (upF ts h != 0) = false := by rw [h0r]; rfl
   simp only [hz, w, hb, hf, hg, hgu, c1, ho, hra, sv, szv, g1, d, beqT, beqF, Bool.not_false, Bool.not_true, wgL_d0_ok, q6]
theorem SW.graft (w : SW ts ws) (hv : FV ts) : SW (grT ts h u) (grW ts ws h u) := by
 by_cases hE : grE ts h u = 0
 ·have e1 : grT ts h u = ts := if_neg hE
  have e2 : grW ts ws h u = ws := if_neg hE
 ·have e1 : grT ts h u = raS ts h u := if_pos hE
  have e2 : grW ts ws h u = ws.setIfInBounds (64 + sl h * 12) (.int .i64 u) := if_pos hE
  unfold grE at hE
  split at hE
  ·exact absurd hE (by decide)
  rename_i n1
  rw [not_or] at n1
  exact w.raise hv.f.ok (by cases c : gdF ts h with | true => rfl | false => exact absurd c n1.1) (.inr (by cases c : gdF ts u with | true => rfl | false => exact absurd c n1.2))
def fwN (ws : Array Value) (l : List Int) : Array Value := l.foldl drW ws
theorem fwN_one (ws : Array Value) (l : List Int) (x : Int) : fwN ws (l ++ [x]) = drW (fwN ws l) x := by unfold fwN; rw [List.foldl_append]; rfl
theorem SW.dropN : ∀ (l : List Int) {ts ws : Array Value}, SW ts ws → TbOk ts → SW (drN ts l) (fwN ws l)
 | [], _, _, w, _ => w
 | x :: l, _, _, w, hb => SW.dropN l (w.drop hb x).1 (dropT_b hb x)
noncomputable def fwC (ts ws : Array Value) (h : Int) (m : SMem) : Tree := .br (decide ((unT ts h).length = 0)) (.ret (wfN ws) m) (.ret (wfS (fwN ws (unT ts h)) m.next (unT ts h).length) (m.new (.pop (i64s (unT ts h))) 3))
theorem wfL_ok (w : SW ts ws) (hb : TbOk ts) {U : List Int} (hl : U.length ≤ 32) (hne : U.length ≠ 0) {zz : Array Value} (hzz : zz.size = 448) : ∀ (r i : Nat), i + r = U.length → Good Tryd.prog (wfA (fwN ws U) U.length (i64s U)) 0 (wfL_F h U.length (i64s U) (i : Int) (fwN ws (U.take i)) zz) (wfL_M h U.length (i64s U) (i : Int) (fwN ws (U.take i)) zz) := by
  obtain rfl : i = U.length := by omega
  refine past_vc (EJ5_ok ts) 1000 (wf1 ts h _ _ _ _ zz (fwN ws U) (fun _ _ _ => False)) ?_ (fun _ _ h => h) (fun fs m hb => wfL_good (fun _ _ _ h => h.elim) hb)
  have d : decide ((U.length : Int) < (U.length : Int)) = false := decide_eq_false (by omega)
  have d2 : ((U.length : Int) == 0) = false := beq_eq_false_iff_ne.2 (by omega)
  have hs := (SW.dropN U w hb).sz
  simp only [d, d2, hs, hzz, List.take_length, q6]
  have hi' : i < U.length := by omega
  refine past_vc (EJ5_ok ts) 1000 (wf1 ts h _ _ (i : Int) _ zz (fwN ws U) (fun i' u z => i' = ((i + 1 : Nat) : Int) ∧ u = fwN ws (U.take (i + 1)) ∧ z = zz)) ?_ (fun _ _ h => h) (fun fs m hb => wfL_good (fun i' u z ⟨e1, e2, e3⟩ => by rw [e1, e2, e3]; exact ih (i + 1) (by omega)) hb)
  have d : decide ((i : Int) < (U.length : Int)) = true := decide_eq_true (by omega)
  have g1 : IsInt .i64 (i64s U) i := isI_of (i64s_at hi')
  have g2 : intAt (i64s U) i = U.getD i 0 := intAt_of (i64s_at hi')
  have y1 : (i : Int) < (U.length : Int) := by omega
  have sw := SW.dropN (U.take i) w hb
  have hb1 := drN_b (U.take i) hb
  have hs := sw.sz
  have wt := sw.wt hb1
  have hs2 := (sw.drop hb1 (U.getD i 0)).1.sz
  rw [take_one hi', fwN_one]
  simp only [Int.toNat_natCast, Nat.mul_one, Nat.zero_add, d, ei, g1, g2, y0, y1, hs, hs2, wt, decide_true, wfL_d0_ok, q6]
theorem rfell_con (h : Int) (m : SMem) : Con E0 29 [wtS ws, i64 (.o h)] m (.need [SW ts ws, FIn ts] (fwC ts ws h m)) := by
 have hz0 := w.sz
 ·refine (show Con E0 29 [wtS ws, i64 (.o h)] m (needs [] _) from Con.pure E0_ok (by kernel_rfl : E0.fn 29 = some Tryd.f29) (by kernel_rfl : Tryd.f29.body = some (Tryd.f29.body.getD .skip)) (by kernel_rfl) (by kernel_rfl) fun hq => ?_)
  refine (Good.ret [] (run_vc (EJ5z_ok ts) 1000 (wf0E ts ws h) ?_ (fun s m h => h) fun fs m hm => hm.elim)).mono fun _ _ h => h.1
  simp only [hz, hz0, w, hf, q6]
 ·have hne : (unT ts h).length ≠ 0 := of_decide_eq_false hz
   | false => exact absurd (by unfold unT; rw [c]; rfl) hne
  have h32 : (unT ts h).length ≤ 32 := by
   have : unT ts h = UNL ts h := if_pos hg
   rw [this]; exact un_32 hf ((lv_mem hb).2 hg)
  refine Con.freshU E0_ok (by kernel_rfl : E0.fn 29 = some Tryd.f29) (by kernel_rfl : Tryd.f29.body = some (Tryd.f29.body.getD .skip)) (by kernel_rfl) (Good.retX ((run_vc (EJ5_ok ts) 1000 (wf0 ts ws h (unT ts h).length (i64s (unT ts h)) (fwN ws (unT ts h)) (fun i u z => i = ((0 : Nat) : Int) ∧ u = fwN ws ((unT ts h).take 0) ∧ z = zW)) ?_ (fun s m h => h) fun fs m hm => wfL_good (A := wfA (fwN ws (unT ts h)) (unT ts h).length (i64s (unT ts h))) (fun i u z ⟨e1, e2, e3⟩ => by rw [e1, e2, e3]; exact wfL_ok w hb h32 hne zW_sz _ 0 (Nat.zero_add _)) hm).mono fun s m h => ?_))
  ·simp only [hz, hz0, w, hf, wfL_d0_ok, q6]
   exact ⟨rfl, rfl⟩
  ·unfold wfA at h
noncomputable def anS (i n : Nat) : SV := .s (.c (.f (.slice i (.l 0) (.o n) .any)))
noncomputable def rwM (a b : Array Value) : SMem := mkM 2 [(0, ⟨.pop a, 30, false⟩), (1, ⟨.pop b, 3, false⟩)]
noncomputable def ERw : Env := ⟨Tryd.prog, fnOf, conI0, haltAt [9 * 1000 + 4]⟩
noncomputable def ERz : Env := ⟨Tryd.prog, fnOf, conI0, haltAt []⟩
noncomputable def wrL_d0 : List SIt := sekF Tryd.f9 4
noncomputable def wrL_F (n : Nat) (a : Array Value) (b : Array Value) (i : Int) : List SFr := [frOf 9 Tryd.f9 [(0, anS 0 n), (1, anS 1 n), (5, i64 (.o i))] wrL_d0]
noncomputable def wrL_M (n : Nat) (a : Array Value) (b : Array Value) (i : Int) : SMem := mkM 2 [(0, ⟨.pop a, 30, false⟩), (1, ⟨.pop b, 3, false⟩)]
noncomputable def wrL_n (n : Nat) (a : Array Value) (b : Array Value) (Q : Int → Prop) (fs : List SFr) (m : SMem) : Prop := (match frNth fs 0 with | some f0 => (match rdI f0 5 with | some i => Q i ∧ subOk 2 [] (wrL_F n a b i) (wrL_M n a b i) fs m | none => False) | none => False)
theorem wrL_d0_ok (r : Nat → Option Nat) : TodoOk r wrL_d0 wrL_d0 := TodoOk.it (by kernel_rfl)
theorem wrL_good {A : SV → SMem → Prop} {n : Nat} {a : Array Value} {b : Array Value} {Q : Int → Prop} {fs : List SFr} {m : SMem} (H : ∀ i, Q i → Good Tryd.prog A 2 (wrL_F n a b i) (wrL_M n a b i)) (hb : wrL_n n a b Q fs m) : Good Tryd.prog A 2 fs m := by
 unfold wrL_n at hb
 exact Good.of_sub hb.2 (H _ hb.1)
theorem wr0 (n : Nat) (a b : Array Value) (Q : Int → Prop) : (run ERw 1000 2 [callFr 9 Tryd.f9.ntmps [anS 0 n, anS 1 n] (Tryd.f9.body.getD .skip)] (rwM a b)).vc (isB true) (wrL_n n a b Q) =
  ((((↑n : Int) != (↑n : Int)) = true → false = true) ∧ (((↑n : Int) != (↑n : Int)) = false → Q (0 : Int) ∧ CallKind.normal = CallKind.normal ∧ TodoOk (ren 2 []) wrL_d0 wrL_d0 ∧ n = n ∧ n = n ∧ (0 : Int) = (0 : Int) ∧ (30 : TypeId) = (30 : TypeId) ∧ a = a ∧ (3 : TypeId) = (3 : TypeId) ∧ b = b ∧ True)) := by kernel_rfl
theorem wr1 (n : Nat) (a b : Array Value) (i : Int) (Q : Int → Prop) : (stepT ERw.go (run ERw 1000) 2 (wrL_F n a b i) (wrL_M n a b i)).vc (isB true) (wrL_n n a b Q) =
  ((decide (i < (↑n : Int)) = true → ((0 ≤ i ∧ i < (↑n : Int)) ∧ True) ∧ (IsInt .u32 a (0 + Int.toNat i * 1) ∧ True) ∧ ((0 ≤ i ∧ i < (↑n : Int)) ∧ True) ∧ (IsInt .i64 b (0 + Int.toNat i * 1) ∧ True) ∧ ((IntKind.wrap .i64 (intAt a (0 + Int.toNat i * 1)) != intAt b (0 + Int.toNat i * 1)) = true → false = true) ∧ ((IntKind.wrap .i64 (intAt a (0 + Int.toNat i * 1)) != intAt b (0 + Int.toNat i * 1)) = false → Q (ari .add .i64 i 1) ∧ CallKind.normal = CallKind.normal ∧ TodoOk (ren 2 []) wrL_d0 wrL_d0 ∧ n = n ∧ n = n ∧ ari .add .i64 i 1 = ari .add .i64 i 1 ∧ (30 : TypeId) = (30 : TypeId) ∧ a = a ∧ (3 : TypeId) = (3 : TypeId) ∧ b = b ∧ True)) ∧ (decide (i < (↑n : Int)) = false → true = true)) := by kernel_rfl
theorem wrZ (z : Nat) : (run ERz 1000 0 [callFr 9 Tryd.f9.ntmps [nlS, nlS] (Tryd.f9.body.getD .skip)] e0M).vc (isB true) (fun _ _ => False) =
  (true = true) := by kernel_rfl
def nmA (ts : Array Value) (n : Int) : Int := if 1 ≤ n ∧ n ≤ 32 ∧ kindAt (bkB ts) (n - 1).toNat = 1 then nmF ts (n - 1).toNat else n
noncomputable def ENm : Env := ⟨Tryd.prog, fnOf, conI0, haltAt []⟩
noncomputable def conS1 (ts : Array Value) (g : FuncId) (l : List SV) (m : SMem) : Option Tree := match g, l with
 | 22, [.s (.agg (.op ts))] => some (.need [TbOk ts] (rowT (lvT ts) 30 m))
noncomputable def ESm (ts : Array Value) : Env := ⟨Tryd.prog, fnOf, conS1 ts, haltAt [7 * 1000 + 5, 7 * 1000 + 14]⟩
noncomputable def ESz (ts : Array Value) : Env := ⟨Tryd.prog, fnOf, conS1 ts, haltAt [7 * 1000 + 7]⟩
noncomputable def smO_d0 : List SIt := sekF Tryd.f7 5
noncomputable def smO_F (ts : Array Value) (ws : Array Value) (n : Nat) (a : Array Value) (b : Array Value) (i : Int) : List SFr := [frOf 7 Tryd.f7 [(2, ptr 0 (.l 0)), (3, ptr 1 (.l 0)), (5, slS 2 n), (6, slS 3 n), (7, i64 (.o i))] smO_d0]
noncomputable def smO_M (ts : Array Value) (ws : Array Value) (n : Nat) (a : Array Value) (b : Array Value) (i : Int) : SMem := mkM 4 [(0, ⟨.op ts, 39, true⟩), (1, ⟨.op ws, 51, true⟩), (2, ⟨.pop a, 30, true⟩), (3, ⟨.pop b, 3, true⟩)]
noncomputable def smO_n (ts : Array Value) (ws : Array Value) (n : Nat) (a : Array Value) (b : Array Value) (Q : Int → Prop) (fs : List SFr) (m : SMem) : Prop := (match frNth fs 0 with | some f0 => (match rdI f0 7 with | some i => (match rdP f0 2 with | some p0 => (match rdP f0 3 with | some p1 => (match rdSI f0 5 with | some p2 => (match rdSI f0 6 with | some p3 => Q i ∧ subOk 0 [(0, p0), (1, p1), (2, p2), (3, p3)] (smO_F ts ws n a b i) (smO_M ts ws n a b i) fs m | none => False) | none => False) | none => False) | none => False) | none => False) | none => False)
noncomputable def smI_d0 : List SIt := sekF Tryd.f7 14
noncomputable def smI_F (ts : Array Value) (ws : Array Value) (n : Nat) (a : Array Value) (b : Array Value) (i : Int) (k : Int) (rr : Array Value) (vv : Array Value) : List SFr := [frOf 7 Tryd.f7 [(2, ptr 0 (.l 0)), (3, ptr 1 (.l 0)), (5, slS 2 n), (6, slS 3 n), (7, i64 (.o i)), (8, ptr 4 (.l 0)), (10, ptr 5 (.l 0)), (12, i64 (.o k))] smI_d0]
noncomputable def smI_M (ts : Array Value) (ws : Array Value) (n : Nat) (a : Array Value) (b : Array Value) (i : Int) (k : Int) (rr : Array Value) (vv : Array Value) : SMem := mkM 6 [(0, ⟨.op ts, 39, true⟩), (1, ⟨.op ws, 51, true⟩), (2, ⟨.pop a, 30, true⟩), (3, ⟨.pop b, 3, true⟩), (4, ⟨.op rr, 36, true⟩), (5, ⟨.op vv, 48, true⟩)]
noncomputable def smI_n (ts : Array Value) (ws : Array Value) (n : Nat) (a : Array Value) (b : Array Value) (Q : Int → Int → Array Value → Array Value → Prop) (fs : List SFr) (m : SMem) : Prop := (match frNth fs 0 with | some f0 => (match rdI f0 7 with | some i => (match rdI f0 12 with | some k => (match rdP f0 2 with | some p0 => (match rdP f0 3 with | some p1 => (match rdSI f0 5 with | some p2 => (match rdSI f0 6 with | some p3 => (match rdP f0 8 with | some p4 => (match rdP f0 10 with | some p5 => (match rdA m p4 with | some rr => (match rdA m p5 with | some vv => Q i k rr vv ∧ subOk 0 [(0, p0), (1, p1), (2, p2), (3, p3), (4, p4), (5, p5)] (smI_F ts ws n a b i k rr vv) (smI_M ts ws n a b i k rr vv) fs m | none => False) | none => False) | none => False) | none => False) | none => False) | none => False) | none => False) | none => False) | none => False) | none => False) | none => False)
noncomputable def smX (ts ws : Array Value) (n : Nat) (a b : Array Value) (QO : Int → Prop) (QI : Int → Int → Array Value → Array Value → Prop) (fs : List SFr) (m : SMem) : Prop := match Nat.beq (atR fs) (7 * 1000 + 5) with | true => smO_n ts ws n a b QO fs m | false => smI_n ts ws n a b QI fs m
theorem smO_d0_ok (r : Nat → Option Nat) : TodoOk r smO_d0 smO_d0 := TodoOk.it (by kernel_rfl)
theorem smI_d0_ok (r : Nat → Option Nat) : TodoOk r smI_d0 smI_d0 := TodoOk.it (by kernel_rfl)
theorem smO_good {A : SV → SMem → Prop} {ts : Array Value} {ws : Array Value} {n : Nat} {a : Array Value} {b : Array Value} {Q : Int → Prop} {fs : List SFr} {m : SMem} (H : ∀ i, Q i → Good Tryd.prog A 0 (smO_F ts ws n a b i) (smO_M ts ws n a b i)) (hb : smO_n ts ws n a b Q fs m) : Good Tryd.prog A 0 fs m := by
 unfold smO_n at hb
theorem smI_good {A : SV → SMem → Prop} {ts : Array Value} {ws : Array Value} {n : Nat} {a : Array Value} {b : Array Value} {Q : Int → Int → Array Value → Array Value → Prop} {fs : List SFr} {m : SMem} (H : ∀ i k rr vv, Q i k rr vv → Good Tryd.prog A 0 (smI_F ts ws n a b i k rr vv) (smI_M ts ws n a b i k rr vv)) (hb : smI_n ts ws n a b Q fs m) : Good Tryd.prog A 0 fs m := by
 unfold smI_n at hb
 exact Good.of_sub hb.2 (H _ _ _ _ hb.1)
theorem nm0 (ws : Array Value) (n : Int) (o : Int) : (run ENm 1000 0 [callFr 8 Tryd.f8.ntmps [wtS ws, .s (.c (.f (.int .u32 (.o n))))] (Tryd.f8.body.getD .skip)] e0M).vc (retOk 0 [] (i64 (.o o)) e0M) (fun _ _ => False) =
  (((decide (n ≥ 1) == true) = true → ((decide (n ≤ 32) == true) = true → ((0 ≤ ari .sub .u32 n 1 ∧ ari .sub .u32 n 1 < 32) ∧ True) ∧ (IsInt .i64 ws (32 + Int.toNat (ari .sub .u32 n 1) * 1) ∧ True) ∧ ((intAt ws (32 + Int.toNat (ari .sub .u32 n 1) * 1) == 1) = true → (64 ≤ Array.size ws ∧ True) ∧ (WB (Array.extract ws 0 64) ∧ (0 ≤ IntKind.wrap .i64 (ari .sub .u32 n 1) ∧ IntKind.wrap .i64 (ari .sub .u32 n 1) < 32) ∧ True) ∧ o = nameI (Int.toNat (IntKind.wrap .i64 (ari .sub .u32 n 1))) (gnW (Array.extract ws 0 64) (Int.toNat (IntKind.wrap .i64 (ari .sub .u32 n 1)))) ∧ True) ∧ ((intAt ws (32 + Int.toNat (ari .sub .u32 n 1) * 1) == 1) = false → o = IntKind.wrap .i64 n ∧ True)) ∧ ((decide (n ≤ 32) == true) = false → o = IntKind.wrap .i64 n ∧ True)) ∧ ((decide (n ≥ 1) == true) = false → o = IntKind.wrap .i64 n ∧ True)) := by kernel_rfl
theorem sm0 (ts ws : Array Value) (n : Nat) (a b : Array Value) (Q : Int → Prop) : (run (ESm ts) 1000 0 [callFr 7 Tryd.f7.ntmps [tbS ts, wtS ws] (Tryd.f7.body.getD .skip)] e0M).vc (isB true) (smO_n ts ws n a b Q) =
  ((Array.size ts = 448 ∧ True) ∧ (TbOk ts ∧ True) ∧ (decide (List.length (lvT ts) = 0) = true → (Array.size ws = 448 ∧ True) ∧ (SW ts ws ∧ TbOk ts ∧ True) ∧ (decide (List.length (lvT ts) = 0) = true → False) ∧ (decide (List.length (lvT ts) = 0) = false → (((0 : Int) != (↑(List.length (lvT ts)) : Int)) = true → false = true) ∧ (((0 : Int) != (↑(List.length (lvT ts)) : Int)) = false → False))) ∧ (decide (List.length (lvT ts) = 0) = false → (Array.size ws = 448 ∧ True) ∧ (SW ts ws ∧ TbOk ts ∧ True) ∧ (decide (List.length (lvT ts) = 0) = true → (((↑(List.length (lvT ts)) : Int) != 0) = true → false = true) ∧ (((↑(List.length (lvT ts)) : Int) != 0) = false → False)) ∧ (decide (List.length (lvT ts) = 0) = false → (((↑(List.length (lvT ts)) : Int) != (↑(List.length (lvT ts)) : Int)) = true → false = true) ∧ (((↑(List.length (lvT ts)) : Int) != (↑(List.length (lvT ts)) : Int)) = false → Q (0 : Int) ∧ CallKind.normal = CallKind.normal ∧ TodoOk (ren 0 [(0, 0), (1, 1), (2, 2), (3, 3)]) smO_d0 smO_d0 ∧ (0 : Int) = (0 : Int) ∧ n = List.length (lvT ts) ∧ n = List.length (lvT ts) ∧ (39 : TypeId) = (39 : Nat) ∧ ts = ts ∧ (51 : TypeId) = (51 : Nat) ∧ ws = ws ∧ (3 : TypeId) = (3 : TypeId) ∧ b = i64s (lvT ts) ∧ (30 : TypeId) = (30 : TypeId) ∧ a = u32s (lvT ts) ∧ True)))) := by kernel_rfl
theorem smZ (ts ws : Array Value) : (run (ESz ts) 1000 0 [callFr 7 Tryd.f7.ntmps [tbS ts, wtS ws] (Tryd.f7.body.getD .skip)] e0M).vc (isB true) (fun _ _ => False) =
  ((Array.size ts = 448 ∧ True) ∧ (TbOk ts ∧ True) ∧ (decide (List.length (lvT ts) = 0) = true → (Array.size ws = 448 ∧ True) ∧ (SW ts ws ∧ TbOk ts ∧ True) ∧ (decide (List.length (lvT ts) = 0) = true → true = true) ∧ (decide (List.length (lvT ts) = 0) = false → (((0 : Int) != (↑(List.length (lvT ts)) : Int)) = true → false = true) ∧ (((0 : Int) != (↑(List.length (lvT ts)) : Int)) = false → true = true))) ∧ (decide (List.length (lvT ts) = 0) = false → (Array.size ws = 448 ∧ True) ∧ (SW ts ws ∧ TbOk ts ∧ True) ∧ (decide (List.length (lvT ts) = 0) = true → (((↑(List.length (lvT ts)) : Int) != 0) = true → false = true) ∧ (((↑(List.length (lvT ts)) : Int) != 0) = false → (decide ((0 : Int) < (↑(List.length (lvT ts)) : Int)) = true → False) ∧ (decide ((0 : Int) < (↑(List.length (lvT ts)) : Int)) = false → true = true))) ∧ (decide (List.length (lvT ts) = 0) = false → (((↑(List.length (lvT ts)) : Int) != (↑(List.length (lvT ts)) : Int)) = true → false = true) ∧ (((↑(List.length (lvT ts)) : Int) != (↑(List.length (lvT ts)) : Int)) = false → (decide ((0 : Int) < (↑(List.length (lvT ts)) : Int)) = true → False) ∧ (decide ((0 : Int) < (↑(List.length (lvT ts)) : Int)) = false → true = true))))) := by kernel_rfl
theorem sm1 (ts ws : Array Value) (n : Nat) (a b : Array Value) (i : Int) (Q : Int → Int → Array Value → Array Value → Prop) : (stepT (ESm ts).go (run (ESm ts) 1000) 0 (smO_F ts ws n a b i) (smO_M ts ws n a b i)).vc (isB true) (smI_n ts ws n a b Q) =
  ((decide (i < (↑n : Int)) = true → ((0 ≤ i ∧ i < (↑n : Int)) ∧ True) ∧ (IsInt .u32 a (0 + Int.toNat i * 1) ∧ True) ∧ ((0 ≤ i ∧ i < (↑n : Int)) ∧ True) ∧ (IsInt .i64 b (0 + Int.toNat i * 1) ∧ True) ∧ (((IntKind.wrap .i64 (intAt a (0 + Int.toNat i * 1)) != intAt b (0 + Int.toNat i * 1)) == false) = true → (0 + 64 ≤ Array.size ts ∧ True) ∧ ((0 ≤ i ∧ i < (↑n : Int)) ∧ True) ∧ (IsInt .u32 a (0 + Int.toNat i * 1) ∧ True) ∧ (BkOk (Array.extract ts 0 (0 + 64)) ∧ (0 ≤ intAt a (0 + Int.toNat i * 1) ∧ intAt a (0 + Int.toNat i * 1) < 4294967296) ∧ True) ∧ ((!goodB (Array.extract ts 0 (0 + 64)) (intAt a (0 + Int.toNat i * 1))) = true → false = true) ∧ ((!goodB (Array.extract ts 0 (0 + 64)) (intAt a (0 + Int.toNat i * 1))) = false → (Array.size ts = 448 ∧ True) ∧ ((0 ≤ i ∧ i < (↑n : Int)) ∧ True) ∧ (IsInt .u32 a (0 + Int.toNat i * 1) ∧ True) ∧ (TbOk ts ∧ (0 ≤ intAt a (0 + Int.toNat i * 1) ∧ intAt a (0 + Int.toNat i * 1) < 4294967296) ∧ True) ∧ (Array.size (getA ts (intAt a (0 + Int.toNat i * 1))) = 12 ∧ Array.size (getA ts (intAt a (0 + Int.toNat i * 1))) = 12 ∧ True) ∧ (Array.size ws = 448 ∧ True) ∧ ((0 ≤ i ∧ i < (↑n : Int)) ∧ True) ∧ (IsInt .i64 b (0 + Int.toNat i * 1) ∧ True) ∧ (SW ts ws ∧ TbOk ts ∧ True) ∧ (Array.size (gwT ts (intAt b (0 + Int.toNat i * 1))) = 12 ∧ Array.size (gwT ts (intAt b (0 + Int.toNat i * 1))) = 12 ∧ True) ∧ (((getX5 ts (intAt a (0 + Int.toNat i * 1)) != 0) == false) = true → (IsInt .u32 (getA ts (intAt a (0 + Int.toNat i * 1))) (0 : Nat) ∧ True) ∧ (IsInt .i64 (gwT ts (intAt b (0 + Int.toNat i * 1))) (0 : Nat) ∧ True) ∧ (((IntKind.wrap .i64 (intAt (getA ts (intAt a (0 + Int.toNat i * 1))) (0 : Nat)) != intAt (gwT ts (intAt b (0 + Int.toNat i * 1))) (0 : Nat)) == false) = true → (IsInt .i64 (getA ts (intAt a (0 + Int.toNat i * 1))) (1 : Nat) ∧ True) ∧ (IsInt .i64 (gwT ts (intAt b (0 + Int.toNat i * 1))) (1 : Nat) ∧ True) ∧ (((intAt (getA ts (intAt a (0 + Int.toNat i * 1))) (1 : Nat) != intAt (gwT ts (intAt b (0 + Int.toNat i * 1))) (1 : Nat)) == false) = true → ((getA ts (intAt a (0 + Int.toNat i * 1)))[(2 : Nat)]? = some (Value.slice none 0 0) ∧ IsInt .i64 (getA ts (intAt a (0 + Int.toNat i * 1))) (3 : Nat) ∧ True) ∧ ((gwT ts (intAt b (0 + Int.toNat i * 1)))[(2 : Nat)]? = some (Value.slice none 0 0) ∧ IsInt .i64 (gwT ts (intAt b (0 + Int.toNat i * 1))) (3 : Nat) ∧ True) ∧ ((intAt (getA ts (intAt a (0 + Int.toNat i * 1))) (3 : Nat) != intAt (gwT ts (intAt b (0 + Int.toNat i * 1))) (3 : Nat)) = true → false = true) ∧ ((intAt (getA ts (intAt a (0 + Int.toNat i * 1))) (3 : Nat) != intAt (gwT ts (intAt b (0 + Int.toNat i * 1))) (3 : Nat)) = false → Q i (0 : Int) (getA ts (intAt a (0 + Int.toNat i * 1))) (gwT ts (intAt b (0 + Int.toNat i * 1))) ∧ CallKind.normal = CallKind.normal ∧ TodoOk (ren 0 [(0, 0), (1, 1), (2, 2), (3, 3), (4, 4), (5, 5)]) smI_d0 smI_d0 ∧ i = i ∧ n = n ∧ (0 : Int) = (0 : Int) ∧ n = n ∧ (39 : TypeId) = (39 : TypeId) ∧ ts = ts ∧ (51 : TypeId) = (51 : TypeId) ∧ ws = ws ∧ (3 : TypeId) = (3 : TypeId) ∧ b = b ∧ (48 : TypeId) = (48 : Nat) ∧ gwT ts (intAt b (0 + Int.toNat i * 1)) = gwT ts (intAt b (0 + Int.toNat i * 1)) ∧ (30 : TypeId) = (30 : TypeId) ∧ a = a ∧ (36 : TypeId) = (36 : Nat) ∧ getA ts (intAt a (0 + Int.toNat i * 1)) = getA ts (intAt a (0 + Int.toNat i * 1)) ∧ True)) ∧ (((intAt (getA ts (intAt a (0 + Int.toNat i * 1))) (1 : Nat) != intAt (gwT ts (intAt b (0 + Int.toNat i * 1))) (1 : Nat)) == false) = false → false = true)) ∧ (((IntKind.wrap .i64 (intAt (getA ts (intAt a (0 + Int.toNat i * 1))) (0 : Nat)) != intAt (gwT ts (intAt b (0 + Int.toNat i * 1))) (0 : Nat)) == false) = false → false = true)) ∧ (((getX5 ts (intAt a (0 + Int.toNat i * 1)) != 0) == false) = false → false = true))) ∧ (((IntKind.wrap .i64 (intAt a (0 + Int.toNat i * 1)) != intAt b (0 + Int.toNat i * 1)) == false) = false → false = true)) ∧ (decide (i < (↑n : Int)) = false → true = true)) := by kernel_rfl
theorem sm2 (ts ws : Array Value) (n : Nat) (a b : Array Value) (i k : Int) (rr vv : Array Value) (QO : Int → Prop) (QI : Int → Int → Array Value → Array Value → Prop) : (stepT (ESm ts).go (run (ESm ts) 1000) 0 (smI_F ts ws n a b i k rr vv) (smI_M ts ws n a b i k rr vv)).vc (isB true) (smX ts ws n a b QO QI) =
  ((decide (k < 8) = true → ((0 ≤ k ∧ k < 8) ∧ True) ∧ (IsInt .u32 rr (4 + Int.toNat k * 1) ∧ True) ∧ ((0 ≤ k ∧ k < 8) ∧ True) ∧ (IsInt .i64 vv (4 + Int.toNat k * 1) ∧ True) ∧ ((IntKind.wrap .i64 (intAt rr (4 + Int.toNat k * 1)) != intAt vv (4 + Int.toNat k * 1)) = true → false = true) ∧ ((IntKind.wrap .i64 (intAt rr (4 + Int.toNat k * 1)) != intAt vv (4 + Int.toNat k * 1)) = false → QI i (ari .add .i64 k 1) rr vv ∧ CallKind.normal = CallKind.normal ∧ TodoOk (ren 0 [(0, 0), (1, 1), (2, 2), (3, 3), (4, 4), (5, 5)]) smI_d0 smI_d0 ∧ i = i ∧ n = n ∧ ari .add .i64 k 1 = ari .add .i64 k 1 ∧ n = n ∧ (39 : TypeId) = (39 : TypeId) ∧ ts = ts ∧ (51 : TypeId) = (51 : TypeId) ∧ ws = ws ∧ (3 : TypeId) = (3 : TypeId) ∧ b = b ∧ (48 : TypeId) = (48 : TypeId) ∧ vv = vv ∧ (30 : TypeId) = (30 : TypeId) ∧ a = a ∧ (36 : TypeId) = (36 : TypeId) ∧ rr = rr ∧ True)) ∧ (decide (k < 8) = false → QO (ari .add .i64 i 1) ∧ CallKind.normal = CallKind.normal ∧ TodoOk (ren 0 [(0, 0), (1, 1), (2, 2), (3, 3)]) smO_d0 smO_d0 ∧ ari .add .i64 i 1 = ari .add .i64 i 1 ∧ n = n ∧ n = n ∧ (39 : TypeId) = (39 : TypeId) ∧ ts = ts ∧ (51 : TypeId) = (51 : TypeId) ∧ ws = ws ∧ (3 : TypeId) = (3 : TypeId) ∧ b = b ∧ (30 : TypeId) = (30 : TypeId) ∧ a = a ∧ True)) := by kernel_rfl
end Go.Proofs.YtklhlkdpidkijaaDoor
