/- Of forests: Graft: its contract. No condition. -/
import Derived.Test.YtdopckcockgefaaDoorMB
set_option linter.unusedVariables false
set_option linter.unusedSimpArgs false
namespace Go.Proofs.YtdopckcockgefaaDoor
set_option maxRecDepth 100000
set_option linter.unusedSimpArgs false
set_option linter.unusedVariables false
section
variable {ts : Array Value} {h up : Int}
theorem gI_ok (hf : FIn ts) (hh : h ∈ lvT ts) (hu : inH up) (hsr : (raT ts h up).size = 448) (h6 : depF ts h + depF ts up ≤ 6) {O : Array Value} {X : Int} (hgood : (∀ y ∈ UNL ts h, depF ts y + depF ts up ≤ 6) → O = raT ts h up ∧ X = raE ts h up) (hbad : ∀ y ∈ UNL ts h, ¬ depF ts y + depF ts up ≤ 6 → O = ts ∧ X = 8) (hne : kdF ts h ≠ []) : Good Tryd.prog (retOk 0 [] (rgS O X) e0M) 0 (gI_F ts h up (kdF ts h).length (u32s (kdF ts h)) (((kdF ts h).length - 1 : Nat) : Int) zT) (gI_M ts h up (kdF ts h).length (u32s (kdF ts h)) (((kdF ts h).length - 1 : Nat) : Int) zT) := by
  have hp := List.length_pos_iff.2 hne
  have hkl := kd_len ts h
  have kd := kdF_eq hf hh
  have hsum : [h] ++ (([] : List Int) ++ (kdF ts h).reverse).reverse.flatMap (UNL ts) = UNL ts h := by
    rw [List.nil_append, List.reverse_reverse, kd, unl_cons hf hh]
    rfl
  have hA : ∀ cs, Stk cs (([] : List Int) ++ (kdF ts h).reverse) → Good Tryd.prog (retOk 0 [] (rgS O X) e0M) 0 (gA_F (0 + 1) ts h up zT (([] : List Int) ++ (kdF ts h).reverse).length cs) (gA_M (0 + 1) ts h up zT (([] : List Int) ++ (kdF ts h).reverse).length cs) := fun cs hc =>
    gA_ok hf (lv_in hf.ok (.inr hh)) hu hsr hh zT_sz hgood hbad _ [h] _ cs (Nat.lt_succ_self _) (fun e => hne (by simpa using e)) hc (fun y hy => by
      rw [List.nil_append] at hy
      have hy := List.mem_reverse.1 hy
      rw [kd] at hy
      exact (kids_memL.1 hy).1) (fun y hy => by rw [List.mem_singleton.1 hy]; exact h6) hsum
  have hi : (kdF ts h).length - 1 < (kdF ts h).length := by omega
  have hk := u32s_at hi
  have hstk : Stk #[Value.int .u32 ((kdF ts h).getD ((kdF ts h).length - 1) 0)] [(kdF ts h).getD ((kdF ts h).length - 1) 0] := ⟨Nat.le_refl _, fun i hi => by
    obtain rfl : i = 0 := by simpa using hi
    rfl⟩
  have hlast : (kdF ts h).drop ((kdF ts h).length - 1) = [(kdF ts h).getD ((kdF ts h).length - 1) 0] := by
    rw [List.drop_eq_getElem_cons hi, List.drop_eq_nil_of_le (by omega), List.getD_eq_getElem?_getD, List.getElem?_eq_getElem hi]
    rfl
  refine past_vc Egn_ok 1000 (gVI ts h up _ _ _ zT O X
    (fun z n c => (z = zT) ∧ n = 1 ∧ (kdF ts h).length = 1 ∧ c = #[Value.int .u32 ((kdF ts h).getD ((kdF ts h).length - 1) 0)])
    (fun i z n c => i = (((kdF ts h).length - 2 : Nat) : Int) ∧ (z = zT) ∧ n = 1 ∧ 2 ≤ (kdF ts h).length ∧ c = #[Value.int .u32 ((kdF ts h).getD ((kdF ts h).length - 1) 0)])) ?_ (fun _ _ h => h)
    (fun fs m hg => gAB_good (fun z n c ⟨e2, e3, e4, e5⟩ => ?_) (fun i z n c ⟨e0, e2, e3, e4, e5⟩ => ?_) hg)
  · have e : ari .sub .i64 (((kdF ts h).length - 1 : Nat) : Int) 1 = (((kdF ts h).length - 1 : Nat) : Int) - 1 := i64_sub1 ⟨by omega, by omega⟩
    have g1 : IsInt .u32 (u32s (kdF ts h)) ((kdF ts h).length - 1) := isI_of hk
    have g2 : intAt (u32s (kdF ts h)) ((kdF ts h).length - 1) = (kdF ts h).getD ((kdF ts h).length - 1) 0 := intAt_of hk
    have y0 : 0 ≤ (((kdF ts h).length - 1 : Nat) : Int) := by omega
    have y1 : (((kdF ts h).length - 1 : Nat) : Int) < ((kdF ts h).length : Int) := by omega
    have t1 : TodoOk (ren 0 [(0, 0), (1, 1), (2, 2), (3, 3), (4, 4), (6, 6), (7, 7), (8, 15), (9, 9), (60, 10), (61, 11), (63, 13), (20, 12)]) gB_d1 gI_d1 := TodoOk.rf2 rfl (by kernel_rfl)
    have t2 : TodoOk (ren 0 [(0, 0), (1, 1), (2, 2), (3, 3), (4, 4), (6, 6), (7, 7), (8, 15), (9, 9), (60, 10), (61, 11), (63, 13), (20, 12)]) gA_d1 gA_d1 := TodoOk.rf rfl (by kernel_rfl)
    have t3 : TodoOk (ren 0 [(0, 0), (1, 1), (2, 2), (3, 3), (4, 4), (6, 6), (7, 7), (8, 15), (9, 9), (20, 12)]) gA_d1 gA_d1 := TodoOk.rf rfl (by kernel_rfl)
    simp only [e, g1, g2, y0, y1, t1, t2, t3, EqL_self, and_true, true_and, gA_d0_ok, gB_d0_ok, q7, cNt]
    refine ⟨fun k => ?_, fun k => ?_⟩
    · have := of_decide_eq_true k
      exact ⟨by omega, by omega⟩
    · have := of_decide_eq_false k
      omega
  · rw [e2, e3, e5]
    have hx : (kdF ts h).reverse = [(kdF ts h).getD ((kdF ts h).length - 1) 0] := by
      have := hlast
      rw [e4] at this ⊢
      have hd : (kdF ts h).drop (1 - 1) = kdF ts h := rfl
      rw [hd] at this
      rw [this]
      rfl
    have := hA _ (by rw [List.nil_append, hx]; exact hstk)
    rw [List.nil_append, hx] at this
    exact this
  · rw [e0, e2, e3, e5]
    have hd : (kdF ts h).length - 2 + 1 = (kdF ts h).length - 1 := by omega
    have := gB_ok (ts := ts) (h := h) (up := up) (O := O) (X := X) (j := 0) (zz := zT) (st0 := []) (K := kdF ts h) (by omega) hkl (Nat.zero_le _) hA ((kdF ts h).length - 2) #[Value.int .u32 ((kdF ts h).getD ((kdF ts h).length - 1) 0)] (by omega) (by rw [hd, hlast]; exact hstk)
    rw [hd, hlast] at this
    exact this
def gr6 (ts : Array Value) (h up : Int) : Prop := ∀ y ∈ UNL ts h, depF ts y + depF ts up ≤ 6
open Classical in
noncomputable def grE (ts : Array Value) (h up : Int) : Int := if gdF ts h = false ∨ gdF ts up = false then 4 else if rtF ts h ≠ h ∨ outF ts h up = true then 12 else if gr6 ts h up then 0 else 8
noncomputable def grT (ts : Array Value) (h up : Int) : Array Value := if grE ts h up = 0 then raS ts h up else ts
theorem fnGr : E0.fn 15 = some Tryd.f15 := by kernel_rfl
theorem bodyGr : Tryd.f15.body = some (Tryd.f15.body.getD .skip) := by kernel_rfl
theorem graft_con (h up : Int) (m : SMem) : Con E0 15 [tbS ts, u32 h, u32 up] m (needs [FIn ts, inH h, inH up] (.ret (rgS (grT ts h up) (grE ts h up)) m)) := by
  refine Con.pure E0_ok fnGr bodyGr (by kernel_rfl) (by kernel_rfl) fun hq => ?_
  have hf : FIn ts := hq _ (by simp)
  have hb := hf.ok
  have hh : inH h := hq _ (by simp)
  have hu : inH up := hq _ (by simp)
  have hh' : 0 ≤ h ∧ h < 4294967296 := hh
  have hu' : 0 ≤ up ∧ up < 4294967296 := hu
  have hs := hb.sz
  have hbk : BkOk (bkB ts) := hb.bk
  have h64 : (64 : Nat) ≤ 448 := by decide
  have hd1 := dep_13 hf h
  have hd2 := dep_13 hf up
  have ed : ari .add .i64 ((depF ts h : Nat) : Int) ((depF ts up : Nat) : Int) = ((depF ts h + depF ts up : Nat) : Int) := by rw [ari_add, i64_in' (by omega) (by omega)]; omega
  have main : gdF ts h = true → gdF ts up = true → rtF ts h = h → outF ts h up = false → raE ts h up = 0 ∧ raT ts h up = raS ts h up ∧ (raT ts h up).size = 448 := fun hg hgu hr ho => by
    have n1 : ¬ (gdF ts h = false ∨ (up ≠ 0 ∧ gdF ts up = false)) := by
      rintro (k | k)
      · rw [hg] at k; cases k
      · rw [hgu] at k; cases k.2
    have n2 : h ∉ chL (upF ts) up := fun k => by
      unfold outF at ho
      rw [hgu, decide_eq_true k] at ho
      cases ho
    have e1 : raE ts h up = 0 := by unfold raE; rw [if_neg n1, if_neg n2]
    have e2 : raT ts h up = raS ts h up := by unfold raT; rw [if_pos e1]
    exact ⟨e1, e2, by rw [e2]; exact (raS_f hb hg hu).1.sz⟩
  have good : gdF ts h = true → gdF ts up = true → rtF ts h = h → outF ts h up = false → gr6 ts h up → grT ts h up = raT ts h up ∧ grE ts h up = raE ts h up := fun hg hgu hr ho h6 => by
    obtain ⟨e1, e2, _⟩ := main hg hgu hr ho
    have e3 : grE ts h up = 0 := by
      unfold grE
      rw [if_neg (by rintro (k | k); · rw [hg] at k; cases k
                     · rw [hgu] at k; cases k), if_neg (by rintro (k | k); · exact k hr
                                                           · rw [ho] at k; cases k), if_pos h6]
    exact ⟨by unfold grT; rw [if_pos e3, e2], by rw [e3, e1]⟩
  have bad : gdF ts h = true → gdF ts up = true → rtF ts h = h → outF ts h up = false → ¬ gr6 ts h up → grT ts h up = ts ∧ grE ts h up = 8 := fun hg hgu hr ho h6 => by
    have e3 : grE ts h up = 8 := by
      unfold grE
      rw [if_neg (by rintro (k | k); · rw [hg] at k; cases k
                     · rw [hgu] at k; cases k), if_neg (by rintro (k | k); · exact k hr
                                                           · rw [ho] at k; cases k), if_neg h6]
    exact ⟨by unfold grT; rw [if_neg (by rw [e3]; decide)], e3⟩
  refine (Good.ret [] (run_vc Eg0_ok 1000 (gV0 ts h up (kdF ts h).length (u32s (kdF ts h)) (grT ts h up) (grE ts h up) (fun i z => i = (((kdF ts h).length - 1 : Nat) : Int) ∧ z = zT ∧ kdF ts h ≠ [] ∧ gdF ts h = true ∧ gdF ts up = true ∧ rtF ts h = h ∧ outF ts h up = false ∧ depF ts h + depF ts up ≤ 6)) ?_ (fun s m h => h) fun fs m hm => gI_good (fun i z ⟨e, e2, e3, hg, hgu, hr, ho, h6⟩ => by
    rw [e, e2]
    have hl : h ∈ lvT ts := (lv_mem hb).2 hg
    obtain ⟨m1, m2, m3⟩ := main hg hgu hr ho
    exact gI_ok hf hl hu m3 h6 (fun k => good hg hgu hr ho k) (fun y hy k => bad hg hgu hr ho fun g => k (g y hy)) e3) hm)).mono fun _ _ h => h.1
  unfold gV0_2 gV0_1 gV0_0
  have stale : (gdF ts h = false ∨ gdF ts up = false) → grT ts h up = ts ∧ grE ts h up = 4 := fun k => by
    have e3 : grE ts h up = 4 := by unfold grE; rw [if_pos k]
    exact ⟨by unfold grT; rw [if_neg (by rw [e3]; decide)], e3⟩
  have state : gdF ts h = true → gdF ts up = true → (rtF ts h ≠ h ∨ outF ts h up = true) → grT ts h up = ts ∧ grE ts h up = 12 := fun hg hgu k => by
    have e3 : grE ts h up = 12 := by
      unfold grE
      rw [if_neg (by rintro (k | k); · rw [hg] at k; cases k
                     · rw [hgu] at k; cases k), if_pos k]
    exact ⟨by unfold grT; rw [if_neg (by rw [e3]; decide)], e3⟩
  cases hg : gdF ts h with
  | false =>
    have hg' : goodB (bkB ts) h = false := hg
    obtain ⟨e3, e4⟩ := stale (.inl hg)
    simp only [bk_f, hg', e3, e4, hs, hbk, h64, hf, hh', hu', beqF, Bool.not_true, Bool.not_false, q6]
  | true =>
    have hg' : goodB (bkB ts) h = true := hg
    cases hgu : gdF ts up with
    | false =>
      have hgu' : goodB (bkB ts) up = false := hgu
      obtain ⟨e3, e4⟩ := stale (.inr hgu)
      simp only [bk_f, hg', hgu', e3, e4, hs, hbk, h64, hf, hh', hu', beqF, Bool.not_true, Bool.not_false, q6]
    | true =>
      have hgu' : goodB (bkB ts) up = true := hgu
      by_cases hr : rtF ts h = h
      rotate_left
      · have dr : (rtF ts h != h) = true := bne_iff_ne.2 hr
        obtain ⟨e3, e4⟩ := state hg hgu (.inl hr)
        simp only [bk_f, hg', hgu', dr, e3, e4, hs, hbk, h64, hf, hh', hu', beqF, Bool.not_true, Bool.not_false, q6]
      · have dr : (rtF ts h != h) = false := by rw [hr]; exact bne_self_eq_false h
        cases ho : outF ts h up with
        | true =>
          obtain ⟨e3, e4⟩ := state hg hgu (.inr ho)
          simp only [bk_f, hg', hgu', dr, ho, e3, e4, hs, hbk, h64, hf, hh', hu', beqF, Bool.not_true, Bool.not_false, q6]
        | false =>
          obtain ⟨m1, m2, m3⟩ := main hg hgu hr ho
          have hl : h ∈ lvT ts := (lv_mem hb).2 hg
          have kd := kdF_eq hf hl
          have hkl := kd_len ts h
          by_cases h6 : depF ts h + depF ts up ≤ 6
          rotate_left
          · have dd : decide (((depF ts h + depF ts up : Nat) : Int) > 6) = true := decide_eq_true (by omega)
            obtain ⟨e3, e4⟩ := bad hg hgu hr ho fun g => h6 (g h (by rw [unl_cons hf hl]; exact List.mem_cons_self ..))
            simp only [bk_f, hg', hgu', dr, ho, ed, dd, e3, e4, m3, hs, hbk, h64, hf, hb, hh', hu', beqF, Bool.not_true, Bool.not_false, q6]
          · have dd : decide (((depF ts h + depF ts up : Nat) : Int) > 6) = false := decide_eq_false (by omega)
            simp only [bk_f, hg', hgu', dr, ho, ed, dd, m3, hs, hbk, h64, hf, hb, hh', hu', EqL_self, beqF, Bool.not_true, Bool.not_false, q6]
            constructor
            · intro k
              have ek := List.eq_nil_of_length_eq_zero (of_decide_eq_true k)
              have eU : UNL ts h = [h] := by rw [unl_cons hf hl, ← kd, ek]; rfl
              exact good hg hgu hr ho fun y hy => by
                rw [eU] at hy
                rw [List.mem_singleton.1 hy]; exact h6
            · intro k
              have hne : kdF ts h ≠ [] := fun e => of_decide_eq_false k (by rw [e]; rfl)
              have hp := List.length_pos_iff.2 hne
              have e5 : ari .sub .i64 ((kdF ts h).length : Int) 1 = (((kdF ts h).length - 1 : Nat) : Int) := by rw [i64_sub1 ⟨by omega, by omega⟩]; omega
              have d5 : decide ((((kdF ts h).length - 1 : Nat) : Int) ≥ 0) = true := decide_eq_true (by omega)
              simp only [e5, d5, gA_d1_ok0, gB_d0_ok, gI_d1_ok0, q6]
              first | exact ⟨hne, hr, h6⟩ | exact ⟨⟨hne, hr, h6⟩, TodoOk.rf rfl (by kernel_rfl)⟩ | exact ⟨⟨hne, hg, hgu, hr, ho, h6⟩, TodoOk.rf rfl (by kernel_rfl)⟩
end
end Go.Proofs.YtdopckcockgefaaDoor
/- Of forests: Fell, New, All; whether a forest is whole: states. No condition. -/
namespace Go.Proofs.YtdopckcockgefaaDoor
set_option linter.unusedVariables false
noncomputable def conT5 (g : FuncId) (l : List SV) (m : SMem) : Option Tree := match g, l with
 | 14, [.s (.agg (.op ts)), .s (.c (.f (.int .u32 h)))] => some (.need [FIn ts, inH h.den] (.ret (rgS (cutT ts h.den) (cutE ts h.den)) m))
 | 15, [.s (.agg (.op ts)), .s (.c (.f (.int .u32 h))), .s (.c (.f (.int .u32 u)))] => some (.need [FIn ts, inH h.den, inH u.den] (.ret (rgS (grT ts h.den u.den) (grE ts h.den u.den)) m))
 | 17, [.s (.agg (.op ts))] => some (.need [TbOk ts] (rowT (lvT ts) 30 m))
 | g, l => conT4 g l m
noncomputable def E50 : Env := ⟨Tryd.prog, fnOf, conT4, haltAt [13 * 1000 + 5]⟩
noncomputable def fellS (o : Array Value) (i n : Nat) : SV := .tup [.agg (.op o), .c (.f (.slice i (.l 0) (.o n) (.full 1))), .c (.f (.int .i64 (.o 0)))]
noncomputable def fellA (o : Array Value) (n : Nat) (rs : Array Value) (s : SV) (m : SMem) : Prop := match s with | .tup [_, .c (.f (.slice i _ _ _)), _] => retOk 0 [(0, i)] (fellS o 0 n) (mkM 1 [(0, ⟨.pop rs, 30, true⟩)]) s m | _ => False
noncomputable def fellN (ts : Array Value) : SV := .tup [.agg (.op ts), .c (.f (.lit (.slice none 0 0))), .c (.f (.int .i64 (.o 4)))]
noncomputable def fL_d0 : List SIt := sekF Tryd.f13 5
noncomputable def fL_F (h : Int) (n : Nat) (rs : Array Value) (i : Int) (us : Array Value) (zz : Array Value) : List SFr := [frOf 13 Tryd.f13 [(2, ptr 0 (.l 0)), (4, ptr 1 (.l 0)), (7, slS 2 n), (19, slS 2 n), (20, i64 (.o (n : Int))), (21, i64 (.o i))] fL_d0]
noncomputable def fL_M (h : Int) (n : Nat) (rs : Array Value) (i : Int) (us : Array Value) (zz : Array Value) : SMem := mkM 3 [(0, ⟨.op us, 39, true⟩), (1, ⟨.op zz, 39, true⟩), (2, ⟨.pop rs, 30, true⟩)]
noncomputable def fL_n (h : Int) (n : Nat) (rs : Array Value) (Q : Int → Array Value → Array Value → Prop) (fs : List SFr) (m : SMem) : Prop := (match frNth fs 0 with | some f0 => (match rdI f0 21 with | some i => (match rdP f0 2 with | some p0 => (match rdP f0 4 with | some p1 => (match rdSI f0 7 with | some p2 => (match rdA m p0 with | some us => (match rdA m p1 with | some zz => Q i us zz ∧ subOk 0 [(0, p0), (1, p1), (2, p2)] (fL_F h n rs i us zz) (fL_M h n rs i us zz) fs m | none => False) | none => False) | none => False) | none => False) | none => False) | none => False) | none => False)
noncomputable def fl0_t (ts : Array Value) (h : Int) (n : Nat) (rs : Array Value) : Tree := run E50 1000 0 [callFr 13 Tryd.f13.ntmps [tbS ts, u32 h] (Tryd.f13.body.getD .skip)] e0M
noncomputable def fl0_x (ts : Array Value) (h : Int) (n : Nat) (rs : Array Value) (QfL : Int → Array Value → Array Value → Prop) (fs : List SFr) (m : SMem) : Prop := fL_n h n rs QfL fs m
noncomputable def fl1_t (h : Int) (n : Nat) (rs : Array Value) (i : Int) (us : Array Value) (zz : Array Value) : Tree := stepT E50.go (run E50 1000) 0 (fL_F h n rs i us zz) (fL_M h n rs i us zz)
noncomputable def fl1_x (h : Int) (n : Nat) (rs : Array Value) (i : Int) (us : Array Value) (zz : Array Value) (QfL : Int → Array Value → Array Value → Prop) (fs : List SFr) (m : SMem) : Prop := fL_n h n rs QfL fs m
theorem fL_d0_ok (r : Nat → Option Nat) : TodoOk r fL_d0 fL_d0 := TodoOk.it (by kernel_rfl)
theorem fL_good {A : SV → SMem → Prop} {h : Int} {n : Nat} {rs : Array Value} {Q : Int → Array Value → Array Value → Prop} {fs : List SFr} {m : SMem} (H : ∀ i us zz, Q i us zz → Good Tryd.prog A 0 (fL_F h n rs i us zz) (fL_M h n rs i us zz)) (hb : fL_n h n rs Q fs m) : Good Tryd.prog A 0 fs m := by
 unfold fL_n at hb
 iterate 7 (split at hb; rotate_left; exact hb.elim)
 exact Good.of_sub hb.2 (H _ _ _ hb.1)
theorem fl0_go {A : SV → SMem → Prop} {ts : Array Value} {h : Int} {n : Nat} {rs : Array Value} {QfL : Int → Array Value → Array Value → Prop} {fs : List SFr} {m : SMem} (hfL : ∀ i' us' zz', QfL i' us' zz' → Good Tryd.prog A 0 (fL_F h n rs i' us' zz') (fL_M h n rs i' us' zz')) (hb : fl0_x ts h n rs QfL fs m) : Good Tryd.prog A 0 fs m := by
 unfold fl0_x at hb
 exact fL_good hfL hb
theorem fl1_go {A : SV → SMem → Prop} {h : Int} {n : Nat} {rs : Array Value} {i : Int} {us : Array Value} {zz : Array Value} {QfL : Int → Array Value → Array Value → Prop} {fs : List SFr} {m : SMem} (hfL : ∀ i' us' zz', QfL i' us' zz' → Good Tryd.prog A 0 (fL_F h n rs i' us' zz') (fL_M h n rs i' us' zz')) (hb : fl1_x h n rs i us zz QfL fs m) : Good Tryd.prog A 0 fs m := by
 unfold fl1_x at hb
 exact fL_good hfL hb
set_option maxRecDepth 100000
theorem flN (ts : Array Value) (h : Int) (n : Nat) (rs : Array Value) (Q : Int → Array Value → Array Value → Prop) : (fl0_t ts h n rs).vc (retOk 0 [] (fellN ts) e0M) (fl0_x ts h n rs Q) =
  ((64 ≤ Array.size ts ∧ True) ∧ (BkOk (Array.extract ts 0 64) ∧ (0 ≤ h ∧ h < 4294967296) ∧ True) ∧ ((!goodB (Array.extract ts 0 64) h) = true → (Array.size ts = 448 ∧ True) ∧ (Array.size ts = 448 ∧ Array.size ts = 448 ∧ True) ∧ (Array.size ts = 448 ∧ True) ∧ ts = ts ∧ Value.slice none 0 0 = Value.slice none 0 0 ∧ (4 : Int) = (4 : Int) ∧ True) ∧ ((!goodB (Array.extract ts 0 64) h) = false → (Array.size ts = 448 ∧ True) ∧ (FIn ts ∧ (0 ≤ h ∧ h < 4294967296) ∧ True) ∧ (decide (List.length (unT ts h) = 0) = true → False) ∧ (decide (List.length (unT ts h) = 0) = false → Q (0 : Int) ts zT ∧ cN ∧ TodoOk (ren 0 [(0, 0), (1, 1), (2, 2)]) fL_d0 fL_d0 ∧ n = List.length (unT ts h) ∧ n = List.length (unT ts h) ∧ (0 : Int) = (0 : Int) ∧ (↑n : Int) = (↑(List.length (unT ts h)) : Int) ∧ 39 = 39 ∧ ts = ts ∧ 39 = 39 ∧ zT = zT ∧ 30 = 30 ∧ rs = u32s (unT ts h) ∧ True))) := by kernel_rfl
theorem flF0 (ts : Array Value) (h : Int) (n : Nat) (rs : Array Value) (o : Array Value) (Q : Int → Array Value → Array Value → Prop) : (fl0_t ts h n rs).vc (fellA o n rs) (fl0_x ts h n rs Q) =
  ((64 ≤ Array.size ts ∧ True) ∧ (BkOk (Array.extract ts 0 64) ∧ (0 ≤ h ∧ h < 4294967296) ∧ True) ∧ ((!goodB (Array.extract ts 0 64) h) = true → (Array.size ts = 448 ∧ True) ∧ (Array.size ts = 448 ∧ Array.size ts = 448 ∧ True) ∧ (Array.size ts = 448 ∧ True) ∧ False) ∧ ((!goodB (Array.extract ts 0 64) h) = false → (Array.size ts = 448 ∧ True) ∧ (FIn ts ∧ (0 ≤ h ∧ h < 4294967296) ∧ True) ∧ (decide (List.length (unT ts h) = 0) = true → False) ∧ (decide (List.length (unT ts h) = 0) = false → Q (0 : Int) ts zT ∧ cN ∧ TodoOk (ren 0 [(0, 0), (1, 1), (2, 2)]) fL_d0 fL_d0 ∧ n = List.length (unT ts h) ∧ n = List.length (unT ts h) ∧ (0 : Int) = (0 : Int) ∧ (↑n : Int) = (↑(List.length (unT ts h)) : Int) ∧ 39 = 39 ∧ ts = ts ∧ 39 = 39 ∧ zT = zT ∧ 30 = 30 ∧ rs = u32s (unT ts h) ∧ True))) := by kernel_rfl
theorem flF (h : Int) (n : Nat) (rs : Array Value) (i : Int) (us zz o : Array Value) (Q : Int → Array Value → Array Value → Prop) : (fl1_t h n rs i us zz).vc (fellA o n rs) (fl1_x h n rs i us zz Q) =
  ((decide (i < (↑n : Int)) = true → ((0 ≤ i ∧ i < (↑n : Int)) ∧ True) ∧ (IsInt .u32 rs (0 + Int.toNat i * 1) ∧ True) ∧ (Array.size us = 448 ∧ True) ∧ (TbOk us ∧ (0 ≤ intAt rs (0 + Int.toNat i * 1) ∧ intAt rs (0 + Int.toNat i * 1) < 4294967296) ∧ True) ∧ (Array.size (dropT us (intAt rs (0 + Int.toNat i * 1))) = 448 ∧ Array.size (dropT us (intAt rs (0 + Int.toNat i * 1))) = Array.size us ∧ True) ∧ Q (ari .add .i64 i 1) (dropT us (intAt rs (0 + Int.toNat i * 1))) zz ∧ cN ∧ TodoOk (ren 0 [(0, 0), (1, 1), (2, 2)]) fL_d0 fL_d0 ∧ n = n ∧ n = n ∧ ari .add .i64 i 1 = ari .add .i64 i 1 ∧ (↑n : Int) = (↑n : Int) ∧ 39 = 39 ∧ dropT us (intAt rs (0 + Int.toNat i * 1)) = dropT us (intAt rs (0 + Int.toNat i * 1)) ∧ 39 = 39 ∧ zz = zz ∧ 30 = 30 ∧ rs = rs ∧ True) ∧ (decide (i < (↑n : Int)) = false → (Array.size us = 448 ∧ True) ∧ (Array.size us = 448 ∧ Array.size us = Array.size zz ∧ True) ∧ (Array.size us = 448 ∧ True) ∧ o = us ∧ n = n ∧ (0 : Int) = (0 : Int) ∧ 30 = 30 ∧ rs = rs ∧ True)) := by kernel_rfl
theorem fn0 (ts : Array Value) (u q : Int) (o : Array Value) (k e : Int) : (run E50 1000 0 [callFr 16 Tryd.f16.ntmps [tbS ts, u32 u, i64 (.o q)] (Tryd.f16.body.getD .skip)] e0M).vc (retOk 0 [] (.tup [.agg (.op o), .c (.f (.int .u32 (.o k))), .c (.f (.int .i64 (.o e)))]) e0M) (fun _ _ => False) =
  ((Array.size ts = 448 ∧ True) ∧ (TbOk ts ∧ (0 ≤ u ∧ u < 4294967296) ∧ True) ∧ (Array.size (newT ts u q) = 448 ∧ Array.size (newT ts u q) = 448 ∧ True) ∧ (((newE ts u q == 0) == false) = true → (((newE ts u q == 7) == true) = true → (Array.size ts = 448 ∧ True) ∧ (FIn ts ∧ (0 ≤ u ∧ u < 4294967296) ∧ True) ∧ (decide ((↑(depF ts u) : Int) ≥ 6) = true → (Array.size ts = 448 ∧ True) ∧ (Array.size ts = 448 ∧ Array.size ts = 448 ∧ True) ∧ (Array.size ts = 448 ∧ True) ∧ o = ts ∧ k = 0 ∧ e = 8 ∧ True) ∧ (decide ((↑(depF ts u) : Int) ≥ 6) = false → (Array.size (newT ts u q) = 448 ∧ True) ∧ (Array.size (newT ts u q) = 448 ∧ Array.size (newT ts u q) = 448 ∧ True) ∧ (Array.size (newT ts u q) = 448 ∧ True) ∧ o = newT ts u q ∧ k = newI ts u q ∧ e = newE ts u q ∧ True)) ∧ (((newE ts u q == 7) == true) = false → (Array.size (newT ts u q) = 448 ∧ True) ∧ (Array.size (newT ts u q) = 448 ∧ Array.size (newT ts u q) = 448 ∧ True) ∧ (Array.size (newT ts u q) = 448 ∧ True) ∧ o = newT ts u q ∧ k = newI ts u q ∧ e = newE ts u q ∧ True)) ∧ (((newE ts u q == 0) == false) = false → (Array.size ts = 448 ∧ True) ∧ (FIn ts ∧ (0 ≤ u ∧ u < 4294967296) ∧ True) ∧ (decide ((↑(depF ts u) : Int) ≥ 6) = true → (Array.size ts = 448 ∧ True) ∧ (Array.size ts = 448 ∧ Array.size ts = 448 ∧ True) ∧ (Array.size ts = 448 ∧ True) ∧ o = ts ∧ k = 0 ∧ e = 8 ∧ True) ∧ (decide ((↑(depF ts u) : Int) ≥ 6) = false → (Array.size (newT ts u q) = 448 ∧ True) ∧ (Array.size (newT ts u q) = 448 ∧ Array.size (newT ts u q) = 448 ∧ True) ∧ (Array.size (newT ts u q) = 448 ∧ True) ∧ o = newT ts u q ∧ k = newI ts u q ∧ e = newE ts u q ∧ True))) := by kernel_rfl
theorem al0 (ts : Array Value) : (run E50 1000 0 [callFr 17 Tryd.f17.ntmps [tbS ts] (Tryd.f17.body.getD .skip)] e0M).vc nilK (fun _ _ => False) =
  ((64 ≤ Array.size ts ∧ True) ∧ (BkOk (Array.extract ts 0 64) ∧ True) ∧ (decide (List.length (issued (Array.extract ts 0 64)) = 0) = true → True) ∧ (decide (List.length (issued (Array.extract ts 0 64)) = 0) = false → False)) := by kernel_rfl
theorem al1 (ts : Array Value) (k : Nat) (cs : Array Value) : (run E50 1000 0 [callFr 17 Tryd.f17.ntmps [tbS ts] (Tryd.f17.body.getD .skip)] e0M).vc (freshA k cs 30) (fun _ _ => False) =
  ((64 ≤ Array.size ts ∧ True) ∧ (BkOk (Array.extract ts 0 64) ∧ True) ∧ (decide (List.length (issued (Array.extract ts 0 64)) = 0) = true → False) ∧ (decide (List.length (issued (Array.extract ts 0 64)) = 0) = false → k = List.length (issued (Array.extract ts 0 64)) ∧ 30 = 30 ∧ cs = u32s (issued (Array.extract ts 0 64)) ∧ True)) := by kernel_rfl
set_option linter.unusedSimpArgs false
set_option linter.unusedVariables false
theorem E50_ok : EnvOk E50 := EnvOk.with E0_ok _ _ conT4_ok
section
variable {ts : Array Value} {h : Int}
theorem fnAl : E0.fn 17 = some Tryd.f17 := by kernel_rfl
theorem bodyAl : Tryd.f17.body = some (Tryd.f17.body.getD .skip) := by kernel_rfl
theorem all_con (m : SMem) : Con E0 17 [tbS ts] m (.need [TbOk ts] (rowT (lvT ts) 30 m)) := by
 refine Con.asked fun hq => ?_
 have hb : TbOk ts := hq _ (by simp)
 have hs := hb.sz
 have h64 : (64 : Nat) ≤ 448 := by decide
 have hbk : BkOk (bkB ts) := hb.bk
 refine Con.two (fun hz => ?_) (fun hz => ?_)
 ·refine (show Con E0 17 [tbS ts] m (needs [] _) from Con.pure E0_ok fnAl bodyAl (by kernel_rfl) (by kernel_rfl) fun hq => ?_)
  refine (run_vc E50_ok 1000 (al0 ts) ?_ (fun s m h => h) fun fs m hm => hm.elim).mono ?_
  ·have c0 : decide ((issued (ts.extract 0 64)).length = 0) = true := hz
   simp only [c0]
   simp only [bk_f, hs, h64, hbk, q6]
  ·intro s m' hs
   unfold nilK at hs
   split at hs
   ·rfl
   ·exact hs.elim
 ·refine (show Con E0 17 [tbS ts] m (needs [] _) from Con.fresh E0_ok fnAl bodyAl (by kernel_rfl) rfl fun _ => ?_)
  refine Good.retX ((run_vc E50_ok 1000 (al1 ts (lvT ts).length (u32s (lvT ts))) ?_ (fun s m h => h) fun fs m hm => hm.elim).mono fun s m h => ?_)
  ·have c0 : decide ((issued (ts.extract 0 64)).length = 0) = false := hz
   simp only [c0]
   simp only [bk_f, hs, h64, hbk, q6]
   exact ⟨rfl, rfl⟩
  ·unfold freshA at h
   split at h
   ·exact ⟨_, h⟩
   ·exact h.elim
def fnE (ts : Array Value) (u q : Int) : Int := if (newE ts u q = 0 ∨ newE ts u q = 7) ∧ 6 ≤ depF ts u then 8 else newE ts u q
def fnT (ts : Array Value) (u q : Int) : Array Value := if fnE ts u q = 0 then nwT ts u q else ts
def fnI (ts : Array Value) (u q : Int) : Int := if fnE ts u q = 0 then issueI (bkB ts) else 0
def fnS (o : Array Value) (k e : Int) : SV := .tup [.agg (.op o), .c (.f (.int .u32 (.o k))), .c (.f (.int .i64 (.o e)))]
theorem newE_c (ts : Array Value) (u q : Int) : newE ts u q = 0 ∨ newE ts u q = 7 ∨ newE ts u q = 4 ∨ newE ts u q = 2 := by
 unfold newE
 split
 ·exact .inr (.inr (.inl rfl))
 ·split
  ·split
   ·exact .inl rfl
   ·exact .inr (.inl rfl)
  ·exact .inr (.inr (.inr rfl))
theorem fnew_con (u q : Int) (m : SMem) : Con E0 16 [tbS ts, u32 u, i64 (.o q)] m (needs [FIn ts, inH u] (.ret (fnS (fnT ts u q) (fnI ts u q) (fnE ts u q)) m)) := by
 refine Con.pure E0_ok (by kernel_rfl : E0.fn 16 = some Tryd.f16) (by kernel_rfl : Tryd.f16.body = some (Tryd.f16.body.getD .skip)) (by kernel_rfl) (by kernel_rfl) fun hq => ?_
 have hf : FIn ts := hq _ (by simp)
 have hu : inH u := hq _ (by simp)
 have hb := hf.ok
 have hu' : 0 ≤ u ∧ u < 4294967296 := hu
 have hs := hb.sz
 refine (Good.ret [] (run_vc E50_ok 1000 (fn0 ts u q (fnT ts u q) (fnI ts u q) (fnE ts u q)) ?_ (fun s m h => h) fun _ _ h => h.elim)).mono fun _ _ h => h.1
 have hsn : (newT ts u q).size = 448 := by
  unfold newT
  split
  ·exact nw_size hb
  ·exact hs
 have d13 := dep_13 hf u
 have deep : 6 ≤ depF ts u → (newE ts u q = 0 ∨ newE ts u q = 7) → fnE ts u q = 8 ∧ fnT ts u q = ts ∧ fnI ts u q = 0 := fun hd k => by
  have e : fnE ts u q = 8 := by unfold fnE; rw [if_pos ⟨k, hd⟩]
  exact ⟨e, by unfold fnT; rw [if_neg (by rw [e]; decide)], by unfold fnI; rw [if_neg (by rw [e]; decide)]⟩
 have flat : ¬ ((newE ts u q = 0 ∨ newE ts u q = 7) ∧ 6 ≤ depF ts u) → fnE ts u q = newE ts u q ∧ fnT ts u q = newT ts u q ∧ fnI ts u q = newI ts u q := fun k => by
  have e : fnE ts u q = newE ts u q := by unfold fnE; rw [if_neg k]
  exact ⟨e, by unfold fnT newT; rw [e], by unfold fnI newI; rw [e]⟩
 by_cases hd : 6 ≤ depF ts u
 ·have dd : decide (((depF ts u : Nat) : Int) ≥ 6) = true := decide_eq_true (by omega)
  rcases newE_c ts u q with e | e | e | e
  ·obtain ⟨e1, e2, e3⟩ := deep hd (.inl e)
   have c1 : ((0 : Int) == 0) = true := rfl
   simp only [e1, e2, e3, e, dd, c1, hs, hb, hf, hu', hsn, beqT, beqF, Bool.not_true, q6]
  ·obtain ⟨e1, e2, e3⟩ := deep hd (.inr e)
   have c1 : ((7 : Int) == 0) = false := rfl
   have c2 : ((7 : Int) == 7) = true := rfl
   simp only [e1, e2, e3, e, dd, c1, c2, hs, hb, hf, hu', hsn, q8, q6]
  ·obtain ⟨e1, e2, e3⟩ := flat (by rw [e]; rintro ⟨k | k, _⟩ <;> exact absurd k (by decide))
   have c1 : ((4 : Int) == 0) = false := rfl
   have c2 : ((4 : Int) == 7) = false := rfl
   rw [e] at e1
   simp only [e1, e2, e3, e, dd, c1, c2, hs, hb, hf, hu', hsn, q8, q6]
  ·obtain ⟨e1, e2, e3⟩ := flat (by rw [e]; rintro ⟨k | k, _⟩ <;> exact absurd k (by decide))
   have c1 : ((2 : Int) == 0) = false := rfl
   have c2 : ((2 : Int) == 7) = false := rfl
   rw [e] at e1
   simp only [e1, e2, e3, e, dd, c1, c2, hs, hb, hf, hu', hsn, q8, q6]
 ·have dd : decide (((depF ts u : Nat) : Int) ≥ 6) = false := decide_eq_false (by omega)
  obtain ⟨e1, e2, e3⟩ := flat fun k => hd k.2
  cases c1 : (newE ts u q == 0) <;> cases c2 : (newE ts u q == 7)
  all_goals
   simp only [e1, e2, e3, dd, c1, c2, hs, hb, hf, hu', hsn, q8, q6]
def drN (u : Array Value) (o : List Int) : Array Value := o.foldl dropT u
theorem drN_one (u : Array Value) (o : List Int) (x : Int) : drN u (o ++ [x]) = dropT (drN u o) x := by unfold drN; rw [List.foldl_append]; rfl
theorem dropT_b {u : Array Value} (hb : TbOk u) (x : Int) : TbOk (dropT u x) := by
 unfold dropT
 split
 ·rename_i hg; exact (drop_f hb hg).1
 ·exact hb
theorem drN_b : ∀ (o : List Int) {u : Array Value}, TbOk u → TbOk (drN u o)
 | [], _, hb => hb
 | x :: o, u, hb => drN_b o (u := dropT u x) (dropT_b hb x)
theorem take_one {l : List Int} {i : Nat} (hi : i < l.length) : l.take (i + 1) = l.take i ++ [l.getD i 0] := by
 rw [List.take_add_one, List.getElem?_eq_getElem hi, List.getD_eq_getElem?_getD, List.getElem?_eq_getElem hi]
 rfl
theorem fL_ok (hb : TbOk ts) {U : List Int} (hU : ∀ x ∈ U, inH x) (hl : U.length ≤ 32) {zz : Array Value} (hz : zz.size = 448) : ∀ (n i : Nat), i + n = U.length → Good Tryd.prog (fellA (drN ts U) U.length (u32s U)) 0 (fL_F h U.length (u32s U) (i : Int) (drN ts (U.take i)) zz) (fL_M h U.length (u32s U) (i : Int) (drN ts (U.take i)) zz) := by
 intro n
 induction n with
 | zero =>
  intro i hi
  obtain rfl : i = U.length := by omega
  refine past_vc E50_ok 1000 (flF h _ _ _ _ zz (drN ts U) (fun _ _ _ => False)) ?_ (fun _ _ h => h) (fun fs m hb => fl1_go (fun _ _ _ h => h.elim) hb)
  have d : decide ((U.length : Int) < (U.length : Int)) = false := decide_eq_false (by omega)
  have hs := (drN_b U hb).sz
  simp only [d, List.take_length, hs, hz, q6]
 | succ n ih =>
  intro i hi
  have hi' : i < U.length := by omega
  refine past_vc E50_ok 1000 (flF h _ _ (i : Int) _ zz (drN ts U) (fun i' u z => i' = ((i + 1 : Nat) : Int) ∧ u = drN ts (U.take (i + 1)) ∧ z = zz)) ?_ (fun _ _ h => h) (fun fs m hb => fl1_go (fun i' u z ⟨e1, e2, e3⟩ => by rw [e1, e2, e3]; exact ih (i + 1) (by omega)) hb)
  have d : decide ((i : Int) < (U.length : Int)) = true := decide_eq_true (by omega)
  have ei : ari .add .i64 (i : Int) 1 = ((i + 1 : Nat) : Int) := by rw [ari_add, i64_in' (by omega) (by omega)]; omega
  have g1 : IsInt .u32 (u32s U) i := isI_of (u32s_at hi')
  have g2 : intAt (u32s U) i = U.getD i 0 := intAt_of (u32s_at hi')
  have hm : U.getD i 0 ∈ U := by rw [List.getD_eq_getElem?_getD, List.getElem?_eq_getElem hi']; exact List.getElem_mem _
  have hx : 0 ≤ U.getD i 0 ∧ U.getD i 0 < 4294967296 := hU _ hm
  have y0 : 0 ≤ (i : Int) := by omega
  have y1 : (i : Int) < (U.length : Int) := by omega
  have hb1 := drN_b (U.take i) hb
  have hs1 := hb1.sz
  have hs2 := (dropT_b hb1 (U.getD i 0)).sz
  rw [take_one hi', drN_one]
  simp only [d, ei, g1, g2, hx, y0, y1, hb1, hs1, hs2, hz, decide_true, fL_d0_ok, q7, q6]
noncomputable def fellR (o : Array Value) (l : List Int) (m : SMem) : Tree := .ret (fellS o m.next l.length) (m.new (.pop (u32s l)) 30)
def fellT (ts : Array Value) (h : Int) : Array Value := drN ts (unT ts h)
noncomputable def fellC (ts : Array Value) (h : Int) (m : SMem) : Tree := .br (decide ((unT ts h).length = 0)) (.ret (fellN ts) m) (fellR (fellT ts h) (unT ts h) m)
theorem fnFe : E0.fn 13 = some Tryd.f13 := by kernel_rfl
theorem bodyFe : Tryd.f13.body = some (Tryd.f13.body.getD .skip) := by kernel_rfl
theorem Con.freshU {E : Env} (hE : EnvOk E) {g : FuncId} {l : List SV} {m : SMem} {n : Nat} {o rs : Array Value} {ty : TypeId} {fn : Func} {c : Code} (h1 : E.fn g = some fn) (h2 : fn.body = some c) (hl0 : allB noIds l = true)
  (h : Good E.P (fun s m' => s = fellS o 0 n ∧ m' = ⟨1, Tr.nil.set 0 (some ⟨.pop rs, ty, true⟩), []⟩) 0 [callFr g fn.ntmps l c] ⟨0, .nil, []⟩) :
  Con E g l m (.ret (fellS o m.next n) (m.new (.pop rs) ty)) := by
 intro A hA
 refine ⟨fn, h1, by rw [h2]; rfl, fun n0 F w0 w R args hl hR => ?_⟩
 refine (answers_of_good (m := ⟨0, .nil, []⟩) (hE.fns _ _ h1).1 h2 h (ok_anys hl0 hl) hR.none).mono ?_
 rintro v w' ⟨s, m', R', ⟨rfl, rfl⟩, hX, hR', hv⟩
 have hb0 : getB (Tr.nil.set 0 (some ⟨.pop rs, ty, true⟩)) 0 = some ⟨.pop rs, ty, true⟩ := rfl
 obtain ⟨gl, cs, fz, e1, e2, e3, e4, e5⟩ := hR'.blk 0 _ hb0
 obtain ⟨e6, ez⟩ := e5 rfl
 have e7 : w.heap.size ≤ gl.b := e6.resolve_right fun x => x
 obtain ⟨R2, k1, k2, k3⟩ := hR.grow hR'.fr.to e7 (hR'.lt 0 gl e1) e2 e3 (free_ok (a := .pop rs) (R' := R) rfl e4) ez
 obtain ⟨vs, rfl, hvs⟩ := hv
 refine ⟨_, _, R2, hA, k1, k3, vs, rfl, ?_⟩
 match hl : vs.toList, hvs with
 | [a, b, d], ⟨q0, ⟨g, cp, f1, q1, f2, f3⟩, q2, _⟩ =>
  rw [e1] at f1
  cases f1
  exact ⟨q0, ⟨gl, cp, k2, q1, f2, f3⟩, q2, trivial⟩
theorem fell_con (h : Int) (m : SMem) : Con E0 13 [tbS ts, u32 h] m (.need [FIn ts, inH h] (fellC ts h m)) := by
 refine Con.asked fun hq => ?_
 have hf : FIn ts := hq _ (by simp)
 have hb := hf.ok
 have hh : inH h := hq _ (by simp)
 have hh' : 0 ≤ h ∧ h < 4294967296 := hh
 have hs := hb.sz
 have h64 : (64 : Nat) ≤ 448 := by decide
 have hbk : BkOk (bkB ts) := hb.bk
 have hU : gdF ts h = true → unT ts h = UNL ts h := fun hg => if_pos hg
 have hgd : gdF ts h = false ↔ (unT ts h).length = 0 := by
  constructor
  ·intro k; unfold unT; rw [k]; rfl
  ·intro k
   cases c : gdF ts h with
   | false => rfl
   | true =>
    rw [hU c, unl_cons hf ((lv_mem hb).2 c)] at k
    cases k
 refine Con.two (fun hz => ?_) (fun hz => ?_)
 ·have hg : goodB (bkB ts) h = false := hgd.2 (of_decide_eq_true hz)
  refine (show Con E0 13 [tbS ts, u32 h] m (needs [] _) from Con.pure E0_ok fnFe bodyFe (by kernel_rfl) (by kernel_rfl) fun hq => ?_)
  refine (Good.ret [] (run_vc E50_ok 1000 (flN ts h 0 #[] (fun _ _ _ => False)) ?_ (fun s m h => h) fun fs m hm => fl0_go (fun _ _ _ e => e.elim) hm)).mono fun _ _ h => h.1
  simp only [bk_f, hg, hs, h64, hbk, hh', Bool.not_false, q6]
 ·have hne : ¬ (unT ts h).length = 0 := of_decide_eq_false hz
  have hg' : gdF ts h = true := by
   cases c : gdF ts h with
   | true => rfl
   | false => exact absurd (hgd.1 c) hne
  have hg : goodB (bkB ts) h = true := hg'
  have hl := (lv_mem hb).2 hg'
  have h32 : (unT ts h).length ≤ 32 := by rw [hU hg']; exact un_32 hf hl
  have hin : ∀ x ∈ unT ts h, inH x := fun x hx => by
   rw [hU hg'] at hx
   exact lv_in hb (.inr (un_sub hf.fo h hl x hx).1)
  refine Con.freshU E0_ok fnFe bodyFe (by kernel_rfl) (Good.retX ((run_vc E50_ok 1000 (flF0 ts h (unT ts h).length (u32s (unT ts h)) (fellT ts h) (fun i u z => i = ((0 : Nat) : Int) ∧ u = drN ts ((unT ts h).take 0) ∧ z = zT)) ?_ (fun s m h => h) fun fs m hm => fl0_go (A := fellA (fellT ts h) (unT ts h).length (u32s (unT ts h))) (fun i u z ⟨e1, e2, e3⟩ => by rw [e1, e2, e3]; exact fL_ok hb hin h32 zT_sz _ 0 (Nat.zero_add _)) hm).mono fun s m h => ?_))
  ·simp only [bk_f, hg, hz, hs, h64, hbk, hf, hh', Bool.not_true, fL_d0_ok, q6]
   exact ⟨rfl, rfl⟩
  ·unfold fellA at h
   split at h
   ·exact ⟨_, h⟩
   ·exact h.elim
end
set_option linter.unusedVariables false
theorem conT5_ok : ∀ g l m t, conT5 g l m = some t → Con E0 g l m t := by
 intro g l m t h
 unfold conT5 at h
 split at h
 ·rename_i ts x; cases h
  exact Con.n1 (cut_con x.den m)
 ·rename_i ts x u; cases h
  exact Con.n2 (graft_con x.den u.den m)
 ·rename_i ts; cases h
  exact all_con m
 ·exact conT4_ok _ _ _ _ h
theorem isB_ok {b : Bool} {s : SV} {m : SMem} {R R' : Ren} {v : Value} (hs : isB b s m) (hv : s.ok R v) : (sB (.l b)).ok R' v := by
 unfold isB at hs
 split at hs
 ·have hv : v = .bool _ := hv
  rw [hv, hs]; rfl
 ·exact hs.elim
def D6 (ts : Array Value) : Prop := ∀ x ∈ lvT ts, depL (upF ts) x ≤ 6
set_option linter.unusedVariables false
def OD (ts : Array Value) : Prop := ∀ x, gdF ts x = true → upR ts x = 0 ∨ usedB (bkB ts) (upR ts x)
structure FV (ts : Array Value) : Prop where
 f : FIn ts
 d : D6 ts
 o : OD ts
def vEq : Option Value → Option Value → Bool
 | some (.int k a), some (.int k' b) => decide (k = k') && decide (a = b)
 | some (.slice none 0 0), some (.slice none 0 0) => true
 | _, _ => false
theorem vEq_ok {a b : Option Value} (h : vEq a b = true) : a = b := by
 unfold vEq at h
 split at h
 ·simp only [Bool.and_eq_true, decide_eq_true_eq] at h
  rw [h.1, h.2]
 ·rfl
 ·cases h
theorem zT_book : ∀ i, i < 32 → vEq (zT[i * 2]?) (some (.int .u32 0)) = true ∧ vEq (zT[i * 2 + 1]?) (some (.int .u8 0)) = true := by decide +kernel
theorem zT_rg : ∀ i, i < 32 → ∀ k, k < 12 → vEq (zT[64 + i * 12 + k]?) ((rgA 0 0 0 fun _ => 0)[k]?) = true := by decide +kernel
theorem z_bk {i : Nat} (hi : i < 32) : (bkB zT)[i * 2]? = some (.int .u32 0) ∧ (bkB zT)[i * 2 + 1]? = some (.int .u8 0) := by
 obtain ⟨h1, h2⟩ := zT_book i hi
 have h1 := vEq_ok h1
 have h2 := vEq_ok h2
 have hs := zT_sz
 unfold bkB
 rw [ext_get (by omega) (by omega), ext_get (by omega) (by omega), Nat.zero_add, Nat.zero_add]
 exact ⟨h1, h2⟩
theorem z_kind {i : Nat} (hi : i < 32) : kindAt (bkB zT) i = 0 := intAt_of (z_bk hi).2
theorem z_age {i : Nat} (hi : i < 32) : ageAt (bkB zT) i = 0 := intAt_of (z_bk hi).1
theorem z_bkok : BkOk (bkB zT) := by
 refine ⟨by unfold bkB; rw [ext_size (by rw [zT_sz]; decide)], fun i hi => isI_of (z_bk hi).1, fun i hi => isI_of (z_bk hi).2, fun i hi => ?_, fun i hi => ?_⟩
 ·rw [z_age hi]; exact ⟨by decide, by decide⟩
 ·rw [z_kind hi]; exact ⟨by decide, by decide⟩
theorem z_tb : TbOk zT := ⟨zT_sz, z_bkok, fun i hi => (rg_new (us := zT) (p := 64 + i * 12) (u := 0) (q := 0) (c := fun _ => 0) (fun k hk => vEq_ok (zT_rg i hi k hk)) ⟨by decide, by decide⟩ ⟨by decide, by decide⟩ (fun _ _ => ⟨by decide, by decide⟩)).1⟩
theorem z_gd (x : Int) : gdF zT x = false := by
 cases c : gdF zT x with
 | false => rfl
 | true =>
  obtain ⟨_, _, s3, s4, _⟩ := good_f z_tb c
  rw [z_kind s3] at s4
  exact absurd s4 (by decide)
theorem z_lv : lvT zT = [] := by
 cases e : lvT zT with
 | nil => rfl
 | cons a l =>
  have : a ∈ lvT zT := by rw [e]; exact List.mem_cons_self ..
  have := (lv_mem z_tb).1 this
  rw [z_gd] at this
  cases this
theorem FV_zero : FV zT := by
 refine ⟨fo_of z_tb fun x hx => ?_, fun x hx => ?_, fun x hx => ?_⟩
 ·rw [z_gd] at hx; cases hx
 ·rw [z_lv] at hx; cases hx
 ·rw [z_gd] at hx; cases hx
section
variable {ts : Array Value} {h : Int}
theorem used_good (hb : TbOk ts) {x : Int} (hx : gdF ts x = true) : usedB (bkB ts) x := by
 obtain ⟨i, hi, hk, e⟩ := (goodB_iff hb.bk).1 hx
 exact ⟨i, ageAt (bkB ts) i, hi, (hb.bk.ra i hi).1, e, .inr ⟨rfl, by rw [hk]; decide⟩⟩
theorem rt_ch_eq {up up' : Int → Int} {x y : Int} (h : chL up' x = chL up y) : rtL up' x = rtL up y := by unfold rtL; rw [h]
theorem cut_f (hv : FV ts) (hg : gdF ts h = true) : FV (cutT ts h) ∧ bkB (cutT ts h) = bkB ts ∧ ∀ x ∈ UNL ts h, gdF (cutT ts h) x = true ∧ rtF (cutT ts h) x = h ∧ ∀ k, k < 8 → ceF (cutT ts h) x k = clC ts h (ceF ts x k) := by
 have hb := hv.f.ok
 obtain ⟨k1, k2, k3, k4, k5⟩ := cut_in hv.f hg
 have hl : h ∈ lvT ts := (lv_mem hb).2 hg
 have elv := lv_bk k2
 have hl' : h ∈ lvT (raS ts h 0) := by rw [elv]; exact hl
 have eT : cutT ts h = cuN ts h (raS ts h 0) (UNL (raS ts h 0) h) := if_pos hg
 obtain ⟨c1, c2, c3⟩ := cu_f (ts := ts) (h := h) (UNL (raS ts h 0) h) k1.ok (fun x hx => (lv_mem k1.ok).1 (un_sub k1.fo h hl' x hx).1)
 obtain ⟨r1, r2, r3, r4, r5⟩ := raS_f (u := 0) hb hg ⟨by decide, by decide⟩
 rw [eT]
 have ebk := c2.trans k2
 have hup : ∀ x ∈ lvT (raS ts h 0), upF (cuN ts h (raS ts h 0) (UNL (raS ts h 0) h)) x = upF (raS ts h 0) x := fun x hx => up_bk c2 (c3 x ((lv_mem k1.ok).1 hx)).1
 obtain ⟨f1, f2⟩ := fo_same k1.fo hup
 have elv2 : lvT (cuN ts h (raS ts h 0) (UNL (raS ts h 0) h)) = lvT (raS ts h 0) := lv_bk c2
 refine ⟨⟨⟨c1, by rw [elv2]; exact f1⟩, fun x hx => ?_, fun x hx => ?_⟩, ebk, fun x hx => ?_⟩
 ·rw [elv2] at hx
  have e := f2 x (.inr hx)
  rw [elv] at hx
  have : depL (upF (cuN ts h (raS ts h 0) (UNL (raS ts h 0) h))) x = depL (upF (raS ts h 0)) x := by unfold depL; rw [e]
  rw [this]
  exact Nat.le_trans (k3 x hx) (hv.d x hx)
 ·rw [gd_bk ebk] at hx
  rw [(c3 x (by rw [gd_bk k2]; exact hx)).1, ebk]
  by_cases e : x = h
  ·rw [e, r3]; exact .inl rfl
  ·rw [r4 x hx e]; exact hv.o x hx
 ·obtain ⟨x1, x2⟩ := un_sub hv.f.fo h hl x hx
  have xg := (lv_mem hb).1 x1
  have x1' : x ∈ lvT (raS ts h 0) := by rw [elv]; exact x1
  have xg' : gdF (cuN ts h (raS ts h 0) (UNL (raS ts h 0) h)) x = true := by rw [gd_bk ebk]; exact xg
  refine ⟨xg', ?_, fun k hk => ?_⟩
  ·unfold rtF
   rw [if_pos xg', rt_ch_eq (f2 x (.inr x1'))]
   exact k5 x (.inr x1) x2
  ·have hm : x ∈ UNL (raS ts h 0) h := (un_mem k1.fo hl').2 ⟨x1', (k4 x (.inr x1)).2 x2⟩
   rw [(c3 x (by rw [gd_bk k2]; exact xg)).2.2 k hk, if_pos hm, (r5 x).2 k hk]
theorem FV_cut (hv : FV ts) (h : Int) : FV (cutT ts h) := by
 cases hg : gdF ts h with
 | true => exact (cut_f hv hg).1
 | false => unfold cutT; rw [hg]; exact hv
theorem graft_f (hv : FV ts) {u : Int} (hu : inH u) : FV (grT ts h u) ∧ (grE ts h u = 0 → rtF (grT ts h u) h = rtF ts u ∧ gdF ts h = true ∧ bkB (grT ts h u) = bkB ts) := by
 by_cases hE : grE ts h u = 0
 rotate_left
 ·have e : grT ts h u = ts := by unfold grT; rw [if_neg hE]
  rw [e]
  exact ⟨hv, fun k => absurd k hE⟩
 have hb := hv.f.ok
 have eT : grT ts h u = raS ts h u := by unfold grT; rw [if_pos hE]
 unfold grE at hE
 split at hE
 ·exact absurd hE (by decide)
 rename_i n1
 split at hE
 ·exact absurd hE (by decide)
 rename_i n2
 split at hE
 rotate_left
 ·exact absurd hE (by decide)
 rename_i h6
 rw [not_or] at n1 n2
 have hg : gdF ts h = true := by cases c : gdF ts h with | true => rfl | false => exact absurd c n1.1
 have hgu : gdF ts u = true := by cases c : gdF ts u with | true => rfl | false => exact absurd c n1.2
 have hr : rtF ts h = h := Decidable.not_not.1 n2.1
 have ho : outF ts h u ≠ true := n2.2
 have hl := (lv_mem hb).2 hg
 have hlu := (lv_mem hb).2 hgu
 obtain ⟨r1, r2, r3, r4, r5⟩ := raS_f (u := u) hb hg hu
 have er : rtF ts h = rtL (upF ts) h := if_pos hg
 have h0r : upF ts h = 0 := (rt_root hv.f.fo hl).1 (by rw [← er]; exact hr)
 have hnot : h ∉ chL (upF ts) u := fun k => ho (by unfold outF; rw [hgu, decide_eq_true k]; rfl)
 have h0 : upF (raS ts h u) h = u := by unfold upF; rw [gd_bk r2, gd_bk r2, r3, if_pos hg, if_pos hgu]
 have hsm : ∀ x ∈ lvT ts, x ≠ h → upF (raS ts h u) x = upF ts x := fun x hx hne => up_bk r2 (r4 x ((lv_mem hb).1 hx) hne)
 have hd6 : ∀ x ∈ lvT ts, h ∈ chL (upF ts) x → depL (upF ts) x + depL (upF ts) u ≤ 6 := fun x hx hc => by
  have := h6 x ((un_mem hv.f.fo hl).2 ⟨hx, hc⟩)
  unfold depF at this
  rw [if_pos ((lv_mem hb).1 hx), if_pos hgu] at this
  exact this
 obtain ⟨f1, f2, f3⟩ := graft_ch hv.f.fo hl h0r hlu hnot h0 hsm (fun x hx hc => by have := hd6 x hx hc; omega)
 have elv := lv_bk r2
 rw [eT]
 refine ⟨⟨⟨r1, by rw [elv]; exact f1⟩, fun x hx => ?_, fun x hx => ?_⟩, fun _ => ⟨?_, hg, r2⟩⟩
 ·rw [elv] at hx
  unfold depL
  by_cases c : h ∈ chL (upF ts) x
  ·rw [f3 x (.inr hx) c, List.length_append]
   exact hd6 x hx c
  ·rw [f2 x (.inr hx) c]
   exact hv.d x hx
 ·rw [gd_bk r2] at hx
  rw [r2]
  by_cases e : x = h
  ·rw [e, r3]; exact .inr (used_good hb hgu)
  ·rw [r4 x hx e]; exact hv.o x hx
 ·unfold rtF
  rw [gd_bk r2, if_pos hg, if_pos hgu]
  exact graft_rt hv.f.fo f1 hl hlu hnot h0 hsm
theorem FV_drop (hv : FV ts) (hg : gdF ts h = true) : FV (drT ts h) := by
 have hb := hv.f.ok
 obtain ⟨r1, r2, r3, r4⟩ := drop_f hb hg
 have hm : ∀ x, x ∈ lvT (drT ts h) ↔ x ∈ lvT ts ∧ x ≠ h := fun x => by
  rw [lv_mem r1, lv_mem hb, r3, Bool.and_eq_true, Bool.not_eq_true', decide_eq_false_iff_not]
 have hup : ∀ x ∈ lvT (drT ts h), upF (drT ts h) x = if upF ts x = h then 0 else upF ts x := fun x hx => by
  obtain ⟨k1, k2⟩ := (hm x).1 hx
  exact drop_up hb hg ((lv_mem hb).1 k1) k2
 obtain ⟨f1, f2⟩ := fo_sub (L' := lvT (drT ts h)) (up' := upF (drT ts h)) hv.f.fo (issued_nodup r1.bk) (fun x hx => ((hm x).1 hx).1) (fun x hx => by
  rw [hup x hx]
  split
  ·exact .inr rfl
  ·exact .inl rfl) (fun x hx => by
  rw [hup x hx]
  split
  ·exact .inl rfl
  ·rename_i c
   rcases hv.f.fo.cl x ((hm x).1 hx).1 with k | k
   ·exact .inl k
   ·exact .inr ((hm _).2 ⟨k, c⟩))
 refine ⟨⟨r1, f1⟩, fun x hx => Nat.le_trans (f2 x hx) (hv.d x ((hm x).1 hx).1), fun x hx => ?_⟩
 have hx' := (lv_mem r1).2 hx
 obtain ⟨k1, k2⟩ := (hm x).1 hx'
 have kg := (lv_mem hb).1 k1
 rw [(r4 x kg k2).1, r2]
 exact (hv.o x kg).imp id used_void_of
where
 used_void_of {x : Int} : usedB (bkB ts) x → usedB (voidB (bkB ts) h) x := fun k => used_void hv.f.ok.bk k
theorem drN_f : ∀ (o : List Int) {ts : Array Value}, FV ts → o.Nodup → (∀ x ∈ o, gdF ts x = true) → FV (drN ts o) ∧ ∀ x, gdF (drN ts o) x = (gdF ts x && !decide (x ∈ o))
 | [], ts, hv, _, _ => ⟨hv, fun x => by simp [drN]⟩
 | y :: o, ts, hv, hn, hg => by
  have hgy := hg y (List.mem_cons_self ..)
  obtain ⟨n1, n2⟩ := List.nodup_cons.1 hn
  have e : dropT ts y = drT ts y := if_pos hgy
  obtain ⟨_, _, r3, _⟩ := drop_f hv.f.ok hgy
  have key := drN_f o (ts := drT ts y) (FV_drop hv hgy) n2 fun x hx => by
   rw [r3, hg x (List.mem_cons_of_mem _ hx), decide_eq_false (fun k => n1 (by rw [← k]; exact hx))]
   rfl
  show FV (drN (dropT ts y) o) ∧ ∀ x, gdF (drN (dropT ts y) o) x = _
  rw [e]
  refine ⟨key.1, fun x => ?_⟩
  rw [key.2, r3]
  by_cases c : x = y
  ·simp [c]
  ·by_cases d : x ∈ o
   ·simp [c, d]
   ·simp [c, d]
theorem fell_f (hv : FV ts) (hg : gdF ts h = true) : FV (fellT ts h) ∧ (lvT ts).length = (unT ts h).length + (lvT (fellT ts h)).length := by
 have hb := hv.f.ok
 have hl := (lv_mem hb).2 hg
 have eU : unT ts h = UNL ts h := if_pos hg
 have hn : (unT ts h).Nodup := by rw [eU]; exact un_nodup hv.f.fo h hl
 have hsub : ∀ x ∈ unT ts h, x ∈ lvT ts := fun x hx => by rw [eU] at hx; exact (un_sub hv.f.fo h hl x hx).1
 obtain ⟨k1, k2⟩ := drN_f (unT ts h) hv hn fun x hx => (lv_mem hb).1 (hsub x hx)
 have k1 : FV (fellT ts h) := k1
 refine ⟨k1, ?_⟩
 have hm : ∀ x, x ∈ lvT (fellT ts h) ↔ x ∈ lvT ts ∧ x ∉ unT ts h := fun x => by
  rw [lv_mem k1.f.ok, lv_mem hb]
  show gdF (drN ts (unT ts h)) x = true ↔ _
  rw [k2, Bool.and_eq_true, Bool.not_eq_true', decide_eq_false_iff_not]
 have hnd : (unT ts h ++ lvT (fellT ts h)).Nodup := by
  rw [List.nodup_append]
  refine ⟨hn, issued_nodup k1.f.ok.bk, fun a ha b hb' e => ?_⟩
  rw [e] at ha
  exact ((hm b).1 hb').2 ha
 rw [← List.length_append]
 refine Nat.le_antisymm (nodup_le (issued_nodup hb.bk) fun x hx => ?_) (nodup_le hnd fun x hx => ?_)
 ·by_cases c : x ∈ unT ts h
  ·exact List.mem_append_left _ c
  ·exact List.mem_append_right _ ((hm x).2 ⟨hx, c⟩)
 ·rcases List.mem_append.1 hx with c | c
  ·exact hsub x c
  ·exact ((hm x).1 c).1
theorem FV_new (hv : FV ts) {u q : Int} (hu : inH u) : FV (fnT ts u q) := by
 by_cases hE : fnE ts u q = 0
 rotate_left
 ·have e : fnT ts u q = ts := by unfold fnT; rw [if_neg hE]
  rw [e]; exact hv
 have hb := hv.f.ok
 have eT : fnT ts u q = nwT ts u q := by unfold fnT; rw [if_pos hE]
 unfold fnE at hE
 split at hE
 ·exact absurd hE (by decide)
 rename_i n1
 have hdep : depF ts u ≤ 5 := by
  rcases Nat.lt_or_ge (depF ts u) 6 with c | c
  ·omega
  ·exact absurd ⟨.inl hE, c⟩ n1
 unfold newE at hE
 split at hE
 ·exact absurd hE (by decide)
 rename_i n2
 split at hE
 rotate_left
 ·exact absurd hE (by decide)
 rename_i hq
 split at hE
 rotate_left
 ·exact absurd hE (by decide)
 rename_i ho
 have hu2 : u = 0 ∨ u ∈ lvT ts := by
  by_cases c : u = 0
  ·exact .inl c
  ·refine .inr ((lv_mem hb).2 ?_)
   cases d : gdF ts u with
   | true => rfl
   | false => exact absurd ⟨c, d⟩ n2
 obtain ⟨r1, r2, r3, r4, r5⟩ := nw_f hb ho (u := u) (q := q) hu hq
 obtain ⟨i1, i2, _⟩ := iss_new hb ho
 have hdu : depL (upF ts) u ≤ 5 := by
  rcases hu2 with c | c
  ·rw [c, dep_zero]; omega
  ·have e : depF ts u = depL (upF ts) u := if_pos ((lv_mem hb).1 c)
   omega
 have hm : ∀ x, x ∈ lvT (nwT ts u q) ↔ x ∈ lvT ts ∨ x = issueI (bkB ts) := fun x => by
  rw [lv_mem r1, lv_mem hb, r3, Bool.or_eq_true, decide_eq_true_eq]
 have hc : issueI (bkB ts) ∉ lvT ts := fun k => by
  rw [lv_mem hb, i1] at k; cases k
 have h0 : upF (nwT ts u q) (issueI (bkB ts)) = u := by
  have g : gdF (nwT ts u q) (issueI (bkB ts)) = true := by rw [r3, decide_eq_true rfl, Bool.or_true]
  unfold upF
  rw [if_pos g, r4.1]
  rcases hu2 with c | c
  ·rw [c]; split <;> rfl
  ·rw [if_pos (by rw [r3, (lv_mem hb).1 c]; rfl)]
 have hsm : ∀ x ∈ lvT ts, upF (nwT ts u q) x = upF ts x := fun x hx => by
  have g := (lv_mem hb).1 hx
  have g' : gdF (nwT ts u q) x = true := by rw [r3, g]; rfl
  have hne : upR ts x ≠ issueI (bkB ts) := fun k => by
   rcases hv.o x g with c | c
   ·exact i2 (k.symm.trans c)
   ·rw [k] at c
    exact (used_new hb.bk ho).2 c
  unfold upF
  rw [if_pos g, if_pos g', (r5 x g).1, r3, decide_eq_false hne, Bool.or_false]
 obtain ⟨f1, f2, f3⟩ := new_ch hv.f.fo (issued_nodup r1.bk) hm hc i2 hu2 h0 hsm (by omega)
 rw [eT]
 refine ⟨⟨r1, f1⟩, fun x hx => ?_, fun x hx => ?_⟩
 ·rcases (hm x).1 hx with k | k
  ·unfold depL
   rw [f2 x (.inr k)]
   exact hv.d x k
  ·rw [k, f3]; omega
 ·rcases (hm x).1 ((lv_mem r1).2 hx) with k | k
  ·have g := (lv_mem hb).1 k
   rw [(r5 x g).1, r2]
   exact (hv.o x g).imp id fun k => used_issue hb.bk k
  ·rw [k, r4.1, r2]
   rcases hu2 with c | c
   ·exact .inl c
   ·exact .inr (used_issue hb.bk (used_good hb ((lv_mem hb).1 c)))
theorem FV_set (hv : FV ts) (hg : gdF ts h = true) {rr : Array Value} (hr : RgOk rr 0) : FV (setT ts h rr) := by
 have hb := hv.f.ok
 obtain ⟨r1, r2, r3, _⟩ := set_f hb hg hr
 have elv := lv_bk r2
 obtain ⟨f1, f2⟩ := fo_same (up' := upF (setT ts h rr)) hv.f.fo fun x hx => up_bk r2 (r3 x ((lv_mem hb).1 hx))
 refine ⟨⟨r1, by rw [elv]; exact f1⟩, fun x hx => ?_, fun x hx => ?_⟩
 ·rw [elv] at hx
  unfold depL
  rw [f2 x (.inr hx)]
  exact hv.d x hx
 ·rw [gd_bk r2] at hx
  rw [r3 x hx, r2]
  exact hv.o x hx
end
set_option linter.unusedVariables false
def gnW (ws:Array Value) (i:Nat):Int:=intAt ws i
def knW (ws:Array Value) (i:Nat):Int:=intAt ws (32+i)
structure WB (ws:Array Value):Prop where
 sz:ws.size=64
 g:∀ i,i<32→IsInt .i64 ws i
 s:∀ i,i<32→IsInt .i64 ws (32+i)
 rg:∀ i,i<32→0≤gnW ws i∧gnW ws i≤8388607
 rs:∀ i,i<32→0≤knW ws i∧knW ws i≤2
noncomputable def wbS (ws:Array Value):SV:=.s (.agg (.op ws))
def slFrom (ws:Array Value) (h:Int):Nat→Nat→Int | 0,_=>-1 | k+1,i=>if knW ws i=1∧nameI i (gnW ws i)=h then (i:Int) else slFrom ws h k (i+1)
def slW (ws:Array Value) (h:Int):Int:=slFrom ws h 32 0
noncomputable def conI0 (g:FuncId) (l:List SV) (m:SMem):Option Tree:=match g,l with
 | 19,[.s (.agg (.op ws)),.s (.c (.f (.int .i64 i)))]=>some (.need [WB ws,0≤i.den∧i.den<32] (.ret (i64 (.o (nameI i.den.toNat (gnW ws i.den.toNat)))) m))
 | g,l=>conT5 g l m
noncomputable def EI0:Env:=⟨Tryd.prog,fnOf,conT5,haltAt []⟩
noncomputable def EIs:Env:=⟨Tryd.prog,fnOf,conI0,haltAt [29*1000+2,79*1000+2]⟩
noncomputable def rS_d0:List SIt:=sekF Tryd.f29 2
noncomputable def rS_F (ws:Array Value) (h:Int) (i:Int):List SFr:=[frOf 29 Tryd.f29 [(1,i64 (.o h)),(2,ptr 0 (.l 0)),(5,i64 (.o i))] rS_d0]
noncomputable def rS_M (ws:Array Value) (h:Int) (i:Int):SMem:=mkM 1 [(0,⟨.op ws,42,true⟩)]
noncomputable def rS_n (ws:Array Value) (h:Int) (Q:Int→Prop) (fs:List SFr) (m:SMem):Prop:=(match frNth fs 0 with | some f0=>(match rdI f0 5 with | some i=>(match rdP f0 2 with | some p0=>Q i∧subOk 0 [(0,p0)] (rS_F ws h i) (rS_M ws h i) fs m | none=>False) | none=>False) | none=>False)
noncomputable def rI_d0:List SIt:=sekF Tryd.f79 2
noncomputable def rI_F (ws:Array Value) (i:Int) (zz:Array Value):List SFr:=[frOf 79 Tryd.f79 [(1,ptr 0 (.l 0)),(2,ptr 1 (.l 0)),(4,i64 (.o i))] rI_d0]
noncomputable def rI_M (ws:Array Value) (i:Int) (zz:Array Value):SMem:=mkM 2 [(0,⟨.op ws,42,true⟩),(1,⟨.op zz,42,true⟩)]
noncomputable def rI_n (ws:Array Value) (Q:Int→Array Value→Prop) (fs:List SFr) (m:SMem):Prop:=(match frNth fs 0 with | some f0=>(match rdI f0 4 with | some i=>(match rdP f0 1 with | some p0=>(match rdP f0 2 with | some p1=>(match rdA m p1 with | some zz=>Q i zz∧subOk 0 [(0,p0),(1,p1)] (rI_F ws i zz) (rI_M ws i zz) fs m | none=>False) | none=>False) | none=>False) | none=>False) | none=>False)
noncomputable def rs0_t (ws:Array Value) (h:Int):Tree:=run EIs 1000 0 [callFr 29 Tryd.f29.ntmps [wbS ws,i64 (.o h)] (Tryd.f29.body.getD .skip)] e0M
noncomputable def rs0_x (ws:Array Value) (h:Int) (QrS:Int→Prop) (fs:List SFr) (m:SMem):Prop:=rS_n ws h QrS fs m
noncomputable def rs1_t (ws:Array Value) (h:Int) (i:Int):Tree:=stepT EIs.go (run EIs 1000) 0 (rS_F ws h i) (rS_M ws h i)
noncomputable def rs1_x (ws:Array Value) (h:Int) (i:Int) (QrS:Int→Prop) (fs:List SFr) (m:SMem):Prop:=rS_n ws h QrS fs m
noncomputable def ri0_t (ws:Array Value):Tree:=run EIs 1000 0 [callFr 79 Tryd.f79.ntmps [wbS ws] (Tryd.f79.body.getD .skip)] e0M
noncomputable def ri0_x (ws:Array Value) (QrI:Int→Array Value→Prop) (fs:List SFr) (m:SMem):Prop:=rI_n ws QrI fs m
noncomputable def ri1_t (ws:Array Value) (i:Int) (zz:Array Value):Tree:=stepT EIs.go (run EIs 1000) 0 (rI_F ws i zz) (rI_M ws i zz)
noncomputable def ri1_x (ws:Array Value) (i:Int) (zz:Array Value) (QrI:Int→Array Value→Prop) (fs:List SFr) (m:SMem):Prop:=rI_n ws QrI fs m
theorem rS_d0_ok (r:Nat→Option Nat):TodoOk r rS_d0 rS_d0:=TodoOk.it (by kernel_rfl)
theorem rI_d0_ok (r:Nat→Option Nat):TodoOk r rI_d0 rI_d0:=TodoOk.it (by kernel_rfl)
theorem rS_good {A:SV→SMem→Prop} {ws:Array Value} {h:Int} {Q:Int→Prop} {fs:List SFr} {m:SMem} (H:∀ i,Q i→Good Tryd.prog A 0 (rS_F ws h i) (rS_M ws h i)) (hb:rS_n ws h Q fs m):Good Tryd.prog A 0 fs m:=by
 unfold rS_n at hb
 iterate 3 (split at hb;rotate_left;exact hb.elim)
 exact Good.of_sub hb.2 (H _ hb.1)
theorem rI_good {A:SV→SMem→Prop} {ws:Array Value} {Q:Int→Array Value→Prop} {fs:List SFr} {m:SMem} (H:∀ i zz,Q i zz→Good Tryd.prog A 0 (rI_F ws i zz) (rI_M ws i zz)) (hb:rI_n ws Q fs m):Good Tryd.prog A 0 fs m:=by
 unfold rI_n at hb
 iterate 5 (split at hb;rotate_left;exact hb.elim)
 exact Good.of_sub hb.2 (H _ _ hb.1)
theorem rs0_go {A:SV→SMem→Prop} {ws:Array Value} {h:Int} {QrS:Int→Prop} {fs:List SFr} {m:SMem} (hrS:∀ i',QrS i'→Good Tryd.prog A 0 (rS_F ws h i') (rS_M ws h i')) (hb:rs0_x ws h QrS fs m):Good Tryd.prog A 0 fs m:=by
 unfold rs0_x at hb
 exact rS_good hrS hb
theorem rs1_go {A:SV→SMem→Prop} {ws:Array Value} {h:Int} {i:Int} {QrS:Int→Prop} {fs:List SFr} {m:SMem} (hrS:∀ i',QrS i'→Good Tryd.prog A 0 (rS_F ws h i') (rS_M ws h i')) (hb:rs1_x ws h i QrS fs m):Good Tryd.prog A 0 fs m:=by
 unfold rs1_x at hb
 exact rS_good hrS hb
theorem ri0_go {A:SV→SMem→Prop} {ws:Array Value} {QrI:Int→Array Value→Prop} {fs:List SFr} {m:SMem} (hrI:∀ i' zz',QrI i' zz'→Good Tryd.prog A 0 (rI_F ws i' zz') (rI_M ws i' zz')) (hb:ri0_x ws QrI fs m):Good Tryd.prog A 0 fs m:=by
 unfold ri0_x at hb
 exact rI_good hrI hb
theorem ri1_go {A:SV→SMem→Prop} {ws:Array Value} {i:Int} {zz:Array Value} {QrI:Int→Array Value→Prop} {fs:List SFr} {m:SMem} (hrI:∀ i' zz',QrI i' zz'→Good Tryd.prog A 0 (rI_F ws i' zz') (rI_M ws i' zz')) (hb:ri1_x ws i zz QrI fs m):Good Tryd.prog A 0 fs m:=by
 unfold ri1_x at hb
 exact rI_good hrI hb
set_option maxRecDepth 100000
theorem of0 (ws:Array Value) (i:Int) (o:Int):(run EI0 1000 0 [callFr 19 Tryd.f19.ntmps [wbS ws,i64 (.o i)] (Tryd.f19.body.getD .skip)] e0M).vc (retOk 0 [] (i64 (.o o)) e0M) (fun _ _=>False) =
  (((0≤i∧i<32)∧True)∧(IsInt .i64 ws (0+Int.toNat i*1)∧True)∧o=ari .add .i64 (ari .add .i64 i (ari .mul .i64 (256:Int) (intAt ws (0+Int.toNat i*1)))) (1:Int)∧True):=by kernel_rfl
theorem rs0F (ws:Array Value) (h o:Int) (Q:Int→Prop):(rs0_t ws h).vc (retOk 0 [] (i64 (.o o)) e0M) (rs0_x ws h Q) =
  (Q (0:Int)∧cN∧TodoOk (ren 0 [(0,0)]) rS_d0 rS_d0∧h=h∧(0:Int)=(0:Int)∧42=42∧ws=ws∧True):=by kernel_rfl
theorem rs1F (ws:Array Value) (h i o:Int) (Q:Int→Prop):(rs1_t ws h i).vc (retOk 0 [] (i64 (.o o)) e0M) (rs1_x ws h i Q) =
  ((decide (i<32)=true→((0≤i∧i<32)∧True)∧(IsInt .i64 ws (32+Int.toNat i*1)∧True)∧(((intAt ws (32+Int.toNat i*1)==1)==true)=true→(Array.size ws=64∧True)∧(WB ws∧(0≤i∧i<32)∧True)∧((nameI (Int.toNat i) (gnW ws (Int.toNat i))==h)=true→o=i∧True)∧((nameI (Int.toNat i) (gnW ws (Int.toNat i))==h)=false→Q (ari .add .i64 i 1)∧cN∧TodoOk (ren 0 [(0,0)]) rS_d0 rS_d0∧h=h∧ari .add .i64 i 1=ari .add .i64 i 1∧42=42∧ws=ws∧True))∧(((intAt ws (32+Int.toNat i*1)==1)==true)=false→Q (ari .add .i64 i 1)∧cN∧TodoOk (ren 0 [(0,0)]) rS_d0 rS_d0∧h=h∧ari .add .i64 i 1=ari .add .i64 i 1∧42=42∧ws=ws∧True))∧(decide (i<32)=false→o=(-1:Int)∧True)):=by kernel_rfl
noncomputable def ri0F_0:Array Value:=#[Value.int .i64 0,Value.int .i64 0,Value.int .i64 0,Value.int .i64 0,Value.int .i64 0,Value.int .i64 0,Value.int .i64 0,Value.int .i64 0,Value.int .i64 0,Value.int .i64 0,Value.int .i64 0,Value.int .i64 0,Value.int .i64 0,Value.int .i64 0,Value.int .i64 0,Value.int .i64 0,Value.int .i64 0,Value.int .i64 0,Value.int .i64 0,Value.int .i64 0,Value.int .i64 0,Value.int .i64 0,Value.int .i64 0,Value.int .i64 0,Value.int .i64 0,Value.int .i64 0,Value.int .i64 0,Value.int .i64 0,Value.int .i64 0,Value.int .i64 0,Value.int .i64 0,Value.int .i64 0,Value.int .i64 0,Value.int .i64 0,Value.int .i64 0,Value.int .i64 0,Value.int .i64 0,Value.int .i64 0,Value.int .i64 0,Value.int .i64 0,Value.int .i64 0,Value.int .i64 0,Value.int .i64 0,Value.int .i64 0,Value.int .i64 0,Value.int .i64 0,Value.int .i64 0,Value.int .i64 0,Value.int .i64 0,Value.int .i64 0,Value.int .i64 0,Value.int .i64 0,Value.int .i64 0,Value.int .i64 0,Value.int .i64 0,Value.int .i64 0,Value.int .i64 0,Value.int .i64 0,Value.int .i64 0,Value.int .i64 0,Value.int .i64 0,Value.int .i64 0,Value.int .i64 0,Value.int .i64 0]
theorem ri0F (ws:Array Value) (o:Array Value) (h:Int) (Q:Int→Array Value→Prop):(ri0_t ws).vc (retOk 0 [] (.tup [.agg (.op o),.c (.f (.int .i64 (.o h)))]) e0M) (ri0_x ws Q) =
  (Q (0:Int) (ri0F_0)∧cN∧TodoOk (ren 0 [(0,0),(1,1)]) rI_d0 rI_d0∧(0:Int)=(0:Int)∧42=42∧ws=ws∧42=42∧(ri0F_0)=(ri0F_0)∧True):=by kernel_rfl
noncomputable def ri1F_0 (ws:Array Value) (i:Int):Array Value:=Array.setIfInBounds ws (32+Int.toNat i*1) (Value.int .i64 1)
theorem ri1F (ws:Array Value) (i:Int) (zz:Array Value) (o:Array Value) (h:Int) (Q:Int→Array Value→Prop):(ri1_t ws i zz).vc (retOk 0 [] (.tup [.agg (.op o),.c (.f (.int .i64 (.o h)))]) e0M) (ri1_x ws i zz Q) =
  ((decide (i<32)=true→((0≤i∧i<32)∧True)∧(IsInt .i64 ws (32+Int.toNat i*1)∧True)∧((intAt ws (32+Int.toNat i*1)==0)=true→((0≤i∧i<32)∧True)∧(32+Int.toNat i*1<Array.size ws∧True)∧(Array.size (ri1F_0 ws i)=64∧True)∧(Array.size (ri1F_0 ws i)=64∧True)∧(WB (ri1F_0 ws i)∧(0≤i∧i<32)∧True)∧(Array.size (ri1F_0 ws i)=64∧Array.size (ri1F_0 ws i)=Array.size zz∧True)∧(Array.size (ri1F_0 ws i)=64∧True)∧o=Array.setIfInBounds ws (32+Int.toNat i*1) (Value.int .i64 1)∧h=nameI (Int.toNat i) (gnW (ri1F_0 ws i) (Int.toNat i))∧True)∧((intAt ws (32+Int.toNat i*1)==0)=false→Q (ari .add .i64 i 1) zz∧cN∧TodoOk (ren 0 [(0,0),(1,1)]) rI_d0 rI_d0∧ari .add .i64 i 1=ari .add .i64 i 1∧42=42∧ws=ws∧42=42∧zz=zz∧True))∧(decide (i<32)=false→(Array.size ws=64∧True)∧(Array.size ws=64∧Array.size ws=Array.size zz∧True)∧(Array.size ws=64∧True)∧o=ws∧h=0∧True)):=by kernel_rfl
set_option linter.unusedVariables false
theorem EI0_ok:EnvOk EI0:=EnvOk.with E0_ok _ _ conT5_ok
section
variable {ws:Array Value}
theorem of_i64 {i:Nat} (hi:i<32) {g:Int} (hg:0≤g∧g≤8388607):ari .add .i64 (ari .add .i64 (i:Int) (ari .mul .i64 256 g)) 1=nameI i g:=by
 have e1:ari .mul .i64 256 g=256*g:=by rw [ari_mul,i64_in' (by omega) (by omega)]
 have e2:ari .add .i64 (i:Int) (256*g)=(i:Int)+256*g:=by rw [ari_add,i64_in' (by omega) (by omega)]
 rw [e1,e2,ari_add,i64_in' (by omega) (by omega)]
 unfold nameI
 omega
theorem rof_con (i:Int) (m:SMem):Con E0 19 [wbS ws,i64 (.o i)] m (needs [WB ws,0≤i∧i<32] (.ret (i64 (.o (nameI i.toNat (gnW ws i.toNat)))) m)):=by
 refine Con.pure E0_ok (by kernel_rfl:E0.fn 19=some Tryd.f19) (by kernel_rfl:Tryd.f19.body=some (Tryd.f19.body.getD .skip)) (by kernel_rfl) (by kernel_rfl) fun hq=>?_
 have hw:WB ws:=hq _ (by simp)
 have hi:0≤i∧i<32:=hq _ (by simp)
 refine (Good.ret [] (run_vc EI0_ok 1000 (of0 ws i (nameI i.toNat (gnW ws i.toNat))) ?_ (fun s m h=>h) fun _ _ h=>h.elim)).mono fun _ _ h=>h.1
 obtain ⟨j,rfl⟩:∃ j:Nat,i=(j:Int):=⟨i.toNat,by omega⟩
 have hj:j<32:=by omega
 have e:=of_i64 hj (hw.rg j hj)
 have g:=hw.g j hj
 unfold gnW at e ⊢
 simp only [hi,g,e,and_true,true_and,q7]
theorem conI0_ok:∀ g l m t,conI0 g l m=some t→Con E0 g l m t:=by
 intro g l m t h
 unfold conI0 at h
 split at h
 ·rename_i ws i;cases h
  exact Con.n1 (rof_con i.den m)
 ·exact conT5_ok _ _ _ _ h
theorem EIs_ok:EnvOk EIs:=EnvOk.with E0_ok _ _ conI0_ok
theorem rS_ok (hw:WB ws) (h:Int):∀ (n i:Nat),i+n=32→Good Tryd.prog (retOk 0 [] (i64 (.o (slFrom ws h n i))) e0M) 0 (rS_F ws h (i:Int)) (rS_M ws h (i:Int)):=by
 intro n
 induction n with
 | zero =>
  intro i hi
  obtain rfl:i=32:=by omega
  refine past_vc EIs_ok 1000 (rs1F ws h _ _ (fun _=>False)) ?_ (fun _ _ h=>h) (fun fs m hb=>rs1_go (fun _ h=>h.elim) hb)
  have d:decide (((32:Nat):Int)<32)=false:=rfl
  simp only [d,decide_true,q6]
  rfl
 | succ n ih =>
  intro i hi
  have hi':i<32:=by omega
  have y0:0≤(i:Int):=by omega
  have y1:(i:Int)<32:=by omega
  have d:decide ((i:Int)<32)=true:=decide_eq_true y1
  have ei:ari .add .i64 (i:Int) 1=((i+1:Nat):Int):=by rw [ari_add,i64_in' (by omega) (by omega)];omega
  have g:=hw.s i hi'
  have hs:=hw.sz
  have ek:intAt ws (32+i)=knW ws i:=rfl
  have eF:slFrom ws h (n+1) i=if knW ws i=1∧nameI i (gnW ws i)=h then (i:Int) else slFrom ws h n (i+1):=rfl
  by_cases c:knW ws i=1∧nameI i (gnW ws i)=h
  ·rw [eF,if_pos c]
   refine past_vc EIs_ok 1000 (rs1F ws h (i:Int) (i:Int) (fun _=>False)) ?_ (fun _ _ h=>h) (fun fs m hb=>rs1_go (fun _ h=>h.elim) hb)
   have c1:(knW ws i==1)=true:=beq_iff_eq.2 c.1
   have c2:(nameI i (gnW ws i)==h)=true:=beq_iff_eq.2 c.2
   simp only [d,y0,y1,g,hs,hw,ek,c1,c2,beqT,beqF,decide_true,q7,q6]
  ·rw [eF,if_neg c]
   refine past_vc EIs_ok 1000 (rs1F ws h (i:Int) (slFrom ws h n (i+1)) (fun i'=>i'=((i+1:Nat):Int))) ?_ (fun _ _ h=>h) (fun fs m hb=>rs1_go (fun i' e=>by rw [e];exact ih (i+1) (by omega)) hb)
   by_cases k:knW ws i=1
   ·have c1:(knW ws i==1)=true:=beq_iff_eq.2 k
    have c2:(nameI i (gnW ws i)==h)=false:=beq_eq_false_iff_ne.2 fun e=>c ⟨k,e⟩
    simp only [d,ei,y0,y1,g,hs,hw,ek,c1,c2,beqT,beqF,decide_true,rS_d0_ok,q7,q6]
   ·have c1:(knW ws i==1)=false:=beq_eq_false_iff_ne.2 k
    simp only [d,ei,y0,y1,g,hs,hw,ek,c1,beqT,beqF,decide_true,rS_d0_ok,q7,q6]
theorem rslot_con (h:Int) (m:SMem):Con E0 29 [wbS ws,i64 (.o h)] m (needs [WB ws] (.ret (i64 (.o (slW ws h))) m)):=by
 refine Con.pure E0_ok (by kernel_rfl:E0.fn 29=some Tryd.f29) (by kernel_rfl:Tryd.f29.body=some (Tryd.f29.body.getD .skip)) (by kernel_rfl) (by kernel_rfl) fun hq=>?_
 have hw:WB ws:=hq _ (by simp)
 refine (Good.ret [] (run_vc EIs_ok 1000 (rs0F ws h (slW ws h) (fun i=>i=((0:Nat):Int))) ?_ (fun s m h=>h) fun fs m hb=>rs0_go (fun i e=>by rw [e];exact rS_ok hw h 32 0 rfl) hb)).mono fun _ _ h=>h.1
 simp only [and_true,true_and,rS_d0_ok,cNt]
 rfl
def frW (ws:Array Value):Nat→Nat→Option Nat
 | 0,_=>none
 | k+1,i=>if knW ws i=0 then some i else frW ws k (i+1)
def isO (ws:Array Value):Option Nat→Array Value
 | some i=>ws.setIfInBounds (32+i) (.int .i64 1)
 | none=>ws
def iiO (ws:Array Value):Option Nat→Int
 | some i=>nameI i (gnW ws i)
 | none=>0
def isW (ws:Array Value):Array Value:=isO ws (frW ws 32 0)
def iiW (ws:Array Value):Int:=iiO ws (frW ws 32 0)
theorem setI {i v:Nat} {x:Int} (hi:i<ws.size) {j:Nat}:(ws.setIfInBounds i (.int .i64 x))[j]?=if i=j then some (.int .i64 x) else ws[j]?:=by
 rw [Array.getElem?_setIfInBounds]
 split
 ·first | rfl | rw [if_pos hi]
 ·rfl
theorem set_kn {i:Nat} {x:Int} (hw:WB ws) (hi:i<32) (hx:0≤x∧x≤2):WB (ws.setIfInBounds (32+i) (.int .i64 x))∧(∀ j,j<32→gnW (ws.setIfInBounds (32+i) (.int .i64 x)) j=gnW ws j)∧∀ j,j<32→knW (ws.setIfInBounds (32+i) (.int .i64 x)) j=if j=i then x else knW ws j:=by
 have hz:=hw.sz
 have a:∀ j,j<32→(ws.setIfInBounds (32+i) (.int .i64 x))[j]?=ws[j]?:=fun j hj=>by
  rw [setI (v:=0) (by omega),if_neg (by omega)]
 have b:∀ j,j<32→(ws.setIfInBounds (32+i) (.int .i64 x))[32+j]?=if j=i then some (.int .i64 x) else ws[32+j]?:=fun j hj=>by
  rw [setI (v:=0) (by omega)]
  by_cases e:j=i
  ·rw [if_pos (by omega),if_pos e]
  ·rw [if_neg (by omega),if_neg e]
 have g:∀ j,j<32→gnW (ws.setIfInBounds (32+i) (.int .i64 x)) j=gnW ws j:=fun j hj=>by unfold gnW intAt;rw [a j hj]
 have k:∀ j,j<32→knW (ws.setIfInBounds (32+i) (.int .i64 x)) j=if j=i then x else knW ws j:=fun j hj=>by
  unfold knW
  by_cases e:j=i
  ·rw [if_pos e];exact intAt_of (by rw [b j hj,if_pos e])
  ·rw [if_neg e];unfold intAt;rw [b j hj,if_neg e]
 refine ⟨⟨by rw [Array.size_setIfInBounds];exact hz,fun j hj=>?_,fun j hj=>?_,fun j hj=>?_,fun j hj=>?_⟩,g,k⟩
 ·have:=hw.g j hj
  have e:=g j hj
  unfold gnW at e
  unfold IsInt at *
  rw [e,a j hj];exact this
 ·by_cases e:j=i
  ·exact isI_of (by rw [b j hj,if_pos e])
  ·have:=hw.s j hj
   have e2:=k j hj
   rw [if_neg e] at e2
   unfold knW at e2
   unfold IsInt at *
   rw [e2,b j hj,if_neg e];exact this
 ·rw [g j hj];exact hw.rg j hj
 ·rw [k j hj]
  split
  ·exact hx
  ·exact hw.rs j hj
theorem rI_ok (hw:WB ws):∀ (n i:Nat) {zz:Array Value},zz.size=64→i+n=32→Good Tryd.prog (retOk 0 [] (.tup [.agg (.op (isO ws (frW ws n i))),.c (.f (.int .i64 (.o (iiO ws (frW ws n i)))))]) e0M) 0 (rI_F ws (i:Int) zz) (rI_M ws (i:Int) zz):=by
 intro n
 induction n with
 | zero =>
  intro i zz hz hi
  obtain rfl:i=32:=by omega
  refine past_vc EIs_ok 1000 (ri1F ws _ zz _ _ (fun _ _=>False)) ?_ (fun _ _ h=>h) (fun fs m hb=>ri1_go (fun _ _ h=>h.elim) hb)
  unfold ri1F_0
  have d:decide (((32:Nat):Int)<32)=false:=rfl
  have hs:=hw.sz
  simp only [d,hs,hz,decide_true,q6]
  exact ⟨rfl,rfl⟩
 | succ n ih =>
  intro i zz hz hi
  have hi':i<32:=by omega
  have y0:0≤(i:Int):=by omega
  have y1:(i:Int)<32:=by omega
  have d:decide ((i:Int)<32)=true:=decide_eq_true y1
  have ei:ari .add .i64 (i:Int) 1=((i+1:Nat):Int):=by rw [ari_add,i64_in' (by omega) (by omega)];omega
  have g:=hw.s i hi'
  have hs:=hw.sz
  have ek:intAt ws (32+i)=knW ws i:=rfl
  have eF:frW ws (n+1) i=if knW ws i=0 then some i else frW ws n (i+1):=rfl
  by_cases c:knW ws i=0
  ·rw [eF,if_pos c]
   refine past_vc EIs_ok 1000 (ri1F ws (i:Int) zz _ _ (fun _ _=>False)) ?_ (fun _ _ h=>h) (fun fs m hb=>ri1_go (fun _ _ h=>h.elim) hb)
   unfold ri1F_0
   have c1:(knW ws i==0)=true:=beq_iff_eq.2 c
   obtain ⟨s1,s2,_⟩:=set_kn (x:=1) hw hi' ⟨by decide,by decide⟩
   have s3:=s1.sz
   have y3:32+i<64:=by omega
   have s4:=s2 i hi'
   simp only [d,y0,y1,y3,g,hs,hz,hw,ek,c1,s1,s3,s4,decide_true,q7,q6]
   exact ⟨rfl,rfl⟩
  ·rw [eF,if_neg c]
   refine past_vc EIs_ok 1000 (ri1F ws (i:Int) zz _ _ (fun i' z=>i'=((i+1:Nat):Int)∧z=zz)) ?_ (fun _ _ h=>h) (fun fs m hb=>ri1_go (fun i' z ⟨e1,e2⟩=>by rw [e1,e2];exact ih (i+1) hz (by omega)) hb)
   unfold ri1F_0
   have c1:(knW ws i==0)=false:=beq_eq_false_iff_ne.2 c
   simp only [d,ei,y0,y1,g,hs,hz,hw,ek,c1,decide_true,rI_d0_ok,q7,q6]
theorem rissue_con (m:SMem):Con E0 79 [wbS ws] m (needs [WB ws] (.ret (.tup [.agg (.op (isW ws)),.c (.f (.int .i64 (.o (iiW ws))))]) m)):=by
 refine Con.pure E0_ok (by kernel_rfl:E0.fn 79=some Tryd.f79) (by kernel_rfl:Tryd.f79.body=some (Tryd.f79.body.getD .skip)) (by kernel_rfl) (by kernel_rfl) fun hq=>?_
 have hw:WB ws:=hq _ (by simp)
 refine (Good.ret [] (run_vc EIs_ok 1000 (ri0F ws (isW ws) (iiW ws) (fun i z=>i=((0:Nat):Int)∧z.size=64)) ?_ (fun s m h=>h) fun fs m hb=>ri0_go (fun i z ⟨e,e2⟩=>by rw [e];exact rI_ok hw 32 0 e2 rfl) hb)).mono fun _ _ h=>h.1
 unfold ri0F_0
 simp only [and_true,true_and,rI_d0_ok,cNt]
 exact ⟨rfl,rfl⟩
end
set_option linter.unusedVariables false
noncomputable def conI1 (g:FuncId) (l:List SV) (m:SMem):Option Tree:=match g,l with
 | 29,[.s (.agg (.op ws)),.s (.c (.f (.int .i64 h)))]=>some (.need [WB ws] (.ret (i64 (.o (slW ws h.den))) m))
 | 79,[.s (.agg (.op ws))]=>some (.need [WB ws] (.ret (.tup [.agg (.op (isW ws)),.c (.f (.int .i64 (.o (iiW ws))))]) m))
 | g,l=>conI0 g l m
noncomputable def EI1:Env:=⟨Tryd.prog,fnOf,conI1,haltAt []⟩
noncomputable def wtS (ws:Array Value):SV:=.s (.agg (.op ws))
noncomputable def wbA (o:Array Value) (b:Bool) (s:SV) (m:SMem):Prop:=retOk 0 [] (.tup [.agg (.op o),.c (.f (.bool (.o b)))]) e0M s m
noncomputable def weA (o:Array Value) (e:Int) (s:SV) (m:SMem):Prop:=retOk 0 [] (.tup [.agg (.op o),.c (.f (.int .i64 (.o e)))]) e0M s m
noncomputable def whA (o:Array Value) (h e:Int) (s:SV) (m:SMem):Prop:=retOk 0 [] (.tup [.agg (.op o),.c (.f (.int .i64 (.o h))),.c (.f (.int .i64 (.o e)))]) e0M s m
set_option maxRecDepth 100000
noncomputable def vo0_0 (ws:Array Value) (h:Int):Array Value:=Array.setIfInBounds ws (32+Int.toNat (slW ws h)*1) (Value.int .i64 0)
noncomputable def vo0_1 (ws:Array Value) (h:Int):Array Value:=Array.setIfInBounds (vo0_0 ws h) (0+Int.toNat (slW ws h)*1) (Value.int .i64 (ari .add .i64 (intAt (vo0_0 ws h) (0+Int.toNat (slW ws h)*1)) (1:Int)))
noncomputable def vo0_2 (ws:Array Value) (h:Int):Array Value:=Array.setIfInBounds (vo0_0 ws h) (32+Int.toNat (slW ws h)*1) (Value.int .i64 2)
theorem vo0 (ws:Array Value) (h:Int) (o:Array Value) (b:Bool):(run EI1 1000 0 [callFr 78 Tryd.f78.ntmps [wbS ws,i64 (.o h)] (Tryd.f78.body.getD .skip)] e0M).vc (wbA o b) (fun _ _=>False) =
  ((Array.size ws=64∧True)∧(WB ws∧True)∧(decide (slW ws h<0)=true→(Array.size ws=64∧True)∧(Array.size ws=64∧Array.size ws=64∧True)∧(Array.size ws=64∧True)∧o=ws∧b=false∧True)∧(decide (slW ws h<0)=false→((0≤slW ws h∧slW ws h<32)∧True)∧(32+Int.toNat (slW ws h)*1<Array.size ws∧True)∧((0≤slW ws h∧slW ws h<32)∧True)∧(IsInt .i64 (vo0_0 ws h) (0+Int.toNat (slW ws h)*1)∧True)∧((intAt (vo0_0 ws h) (0+Int.toNat (slW ws h)*1)==8388607)=true→((0≤slW ws h∧slW ws h<32)∧True)∧(32+Int.toNat (slW ws h)*1<Array.size (vo0_0 ws h)∧True)∧(Array.size (vo0_2 ws h)=64∧True)∧(Array.size (vo0_2 ws h)=64∧Array.size (vo0_2 ws h)=64∧True)∧(Array.size (vo0_2 ws h)=64∧True)∧o=Array.setIfInBounds (vo0_0 ws h) (32+Int.toNat (slW ws h)*1) (Value.int .i64 2)∧b=true∧True)∧((intAt (vo0_0 ws h) (0+Int.toNat (slW ws h)*1)==8388607)=false→((0≤slW ws h∧slW ws h<32)∧True)∧(IsInt .i64 (vo0_0 ws h) (0+Int.toNat (slW ws h)*1)∧True)∧((0≤slW ws h∧slW ws h<32)∧True)∧(0+Int.toNat (slW ws h)*1<Array.size (vo0_0 ws h)∧True)∧(Array.size (vo0_1 ws h)=64∧True)∧(Array.size (vo0_1 ws h)=64∧Array.size (vo0_1 ws h)=64∧True)∧(Array.size (vo0_1 ws h)=64∧True)∧o=Array.setIfInBounds (vo0_0 ws h) (0+Int.toNat (slW ws h)*1) (Value.int .i64 (ari .add .i64 (intAt (vo0_0 ws h) (0+Int.toNat (slW ws h)*1)) (1:Int)))∧b=true∧True))):=by kernel_rfl
theorem rg0 (ws:Array Value) (h:Int) (b:Bool):(run EI1 1000 0 [callFr 27 Tryd.f27.ntmps [wtS ws,i64 (.o h)] (Tryd.f27.body.getD .skip)] e0M).vc (retOk 0 [] (sB (.o b)) e0M) (fun _ _=>False) =
  ((64≤Array.size ws∧True)∧(WB (Array.extract ws 0 64)∧True)∧b=decide (slW (Array.extract ws 0 64) h≥0)∧True):=by kernel_rfl
noncomputable def rt0_0 (ws:Array Value):Array Value:=Array.extract ws 0 64
theorem rt0 (ws:Array Value) (h:Int) (o:Array Value) (e:Int):(run EI1 1000 0 [callFr 35 Tryd.f35.ntmps [wtS ws,i64 (.o h)] (Tryd.f35.body.getD .skip)] e0M).vc (weA o e) (fun _ _=>False) =
  ((64≤Array.size ws∧True)∧(WB (rt0_0 ws)∧True)∧(decide (slW (rt0_0 ws) h<0)=true→o=#[Value.int .i64 0,Value.int .i64 0,Value.slice none 0 0,Value.int .i64 0,Value.int .i64 0,Value.int .i64 0,Value.int .i64 0,Value.int .i64 0,Value.int .i64 0,Value.int .i64 0,Value.int .i64 0,Value.int .i64 0]∧e=4∧True)∧(decide (slW (rt0_0 ws) h<0)=false→((0≤slW (rt0_0 ws) h∧slW (rt0_0 ws) h<32)∧True)∧(IsInt .i64 ws (64+Int.toNat (slW (rt0_0 ws) h)*12)∧IsInt .i64 ws (64+Int.toNat (slW (rt0_0 ws) h)*12+1)∧ws[64+Int.toNat (slW (rt0_0 ws) h)*12+2]?=some (Value.slice none 0 0)∧IsInt .i64 ws (64+Int.toNat (slW (rt0_0 ws) h)*12+3)∧IsInt .i64 ws (64+Int.toNat (slW (rt0_0 ws) h)*12+4)∧IsInt .i64 ws (64+Int.toNat (slW (rt0_0 ws) h)*12+5)∧IsInt .i64 ws (64+Int.toNat (slW (rt0_0 ws) h)*12+6)∧IsInt .i64 ws (64+Int.toNat (slW (rt0_0 ws) h)*12+7)∧IsInt .i64 ws (64+Int.toNat (slW (rt0_0 ws) h)*12+8)∧IsInt .i64 ws (64+Int.toNat (slW (rt0_0 ws) h)*12+9)∧IsInt .i64 ws (64+Int.toNat (slW (rt0_0 ws) h)*12+10)∧IsInt .i64 ws (64+Int.toNat (slW (rt0_0 ws) h)*12+11)∧True)∧o=#[Value.int .i64 (intAt ws (64+Int.toNat (slW (rt0_0 ws) h)*12)),Value.int .i64 (intAt ws (64+Int.toNat (slW (rt0_0 ws) h)*12+1)),Value.slice none 0 0,Value.int .i64 (intAt ws (64+Int.toNat (slW (rt0_0 ws) h)*12+3)),Value.int .i64 (intAt ws (64+Int.toNat (slW (rt0_0 ws) h)*12+4)),Value.int .i64 (intAt ws (64+Int.toNat (slW (rt0_0 ws) h)*12+5)),Value.int .i64 (intAt ws (64+Int.toNat (slW (rt0_0 ws) h)*12+6)),Value.int .i64 (intAt ws (64+Int.toNat (slW (rt0_0 ws) h)*12+7)),Value.int .i64 (intAt ws (64+Int.toNat (slW (rt0_0 ws) h)*12+8)),Value.int .i64 (intAt ws (64+Int.toNat (slW (rt0_0 ws) h)*12+9)),Value.int .i64 (intAt ws (64+Int.toNat (slW (rt0_0 ws) h)*12+10)),Value.int .i64 (intAt ws (64+Int.toNat (slW (rt0_0 ws) h)*12+11))]∧e=0∧True)):=by kernel_rfl
noncomputable def up0_0 (ws:Array Value):Array Value:=Array.extract ws 0 64
theorem up0 (ws:Array Value) (h:Int) (o:Int):(run EI1 1000 0 [callFr 61 Tryd.f61.ntmps [wtS ws,i64 (.o h)] (Tryd.f61.body.getD .skip)] e0M).vc (retOk 0 [] (i64 (.o o)) e0M) (fun _ _=>False) =
  ((Array.size ws=448∧True)∧(64≤Array.size ws∧True)∧(WB (up0_0 ws)∧True)∧(decide (slW (up0_0 ws) h<0)=true→o=0∧True)∧(decide (slW (up0_0 ws) h<0)=false→((0≤slW (up0_0 ws) h∧slW (up0_0 ws) h<32)∧True)∧(IsInt .i64 ws (64+Int.toNat (slW (up0_0 ws) h)*12)∧IsInt .i64 ws (64+Int.toNat (slW (up0_0 ws) h)*12+1)∧ws[64+Int.toNat (slW (up0_0 ws) h)*12+2]?=some (Value.slice none 0 0)∧IsInt .i64 ws (64+Int.toNat (slW (up0_0 ws) h)*12+3)∧IsInt .i64 ws (64+Int.toNat (slW (up0_0 ws) h)*12+4)∧IsInt .i64 ws (64+Int.toNat (slW (up0_0 ws) h)*12+5)∧IsInt .i64 ws (64+Int.toNat (slW (up0_0 ws) h)*12+6)∧IsInt .i64 ws (64+Int.toNat (slW (up0_0 ws) h)*12+7)∧IsInt .i64 ws (64+Int.toNat (slW (up0_0 ws) h)*12+8)∧IsInt .i64 ws (64+Int.toNat (slW (up0_0 ws) h)*12+9)∧IsInt .i64 ws (64+Int.toNat (slW (up0_0 ws) h)*12+10)∧IsInt .i64 ws (64+Int.toNat (slW (up0_0 ws) h)*12+11)∧True)∧o=intAt ws (64+Int.toNat (slW (up0_0 ws) h)*12)∧True)):=by kernel_rfl
noncomputable def nw0_0 (ws:Array Value) (u:Int) (q:Int) (o:Array Value) (h:Int) (e:Int):Prop:=(decide (q<0)==false)=true→(decide (q>64)=true→(Array.size ws=448∧True)∧(Array.size ws=448∧Array.size ws=448∧True)∧(Array.size ws=448∧True)∧o=ws∧h=0∧e=2∧True)∧(decide (q>64)=false→(64≤Array.size ws∧True)∧(WB (Array.extract ws 0 64)∧True)∧(Array.size (isW (Array.extract ws 0 64))=64∧Array.size (isW (Array.extract ws 0 64))=64∧True)∧((iiW (Array.extract ws 0 64)==0)=true→(Array.size ws=448∧True)∧(Array.size ws=448∧Array.size ws=448∧True)∧(Array.size ws=448∧True)∧o=ws∧h=0∧e=7∧True)∧((iiW (Array.extract ws 0 64)==0)=false→(Array.size (isW (Array.extract ws 0 64))=64∧True)∧(Array.size (isW (Array.extract ws 0 64))=64∧0+Array.size (isW (Array.extract ws 0 64))≤Array.size ws∧True)∧(Array.size (isW (Array.extract ws 0 64))=64∧True)∧(WB (isW (Array.extract ws 0 64))∧True)∧((0≤slW (isW (Array.extract ws 0 64)) (iiW (Array.extract ws 0 64))∧slW (isW (Array.extract ws 0 64)) (iiW (Array.extract ws 0 64))<32)∧True)∧(64+Int.toNat (slW (isW (Array.extract ws 0 64)) (iiW (Array.extract ws 0 64)))*12+List.length [Value.int .i64 u,Value.int .i64 q,Value.slice none 0 0,Value.int .i64 0,Value.int .i64 0,Value.int .i64 0,Value.int .i64 0,Value.int .i64 0,Value.int .i64 0,Value.int .i64 0,Value.int .i64 0,Value.int .i64 0]≤Array.size (putAt ws 0 (Array.toList (isW (Array.extract ws 0 64))))∧True)∧(Array.size (putAt (putAt ws 0 (Array.toList (isW (Array.extract ws 0 64)))) (64+Int.toNat (slW (isW (Array.extract ws 0 64)) (iiW (Array.extract ws 0 64)))*12) [Value.int .i64 u,Value.int .i64 q,Value.slice none 0 0,Value.int .i64 0,Value.int .i64 0,Value.int .i64 0,Value.int .i64 0,Value.int .i64 0,Value.int .i64 0,Value.int .i64 0,Value.int .i64 0,Value.int .i64 0])=448∧True)∧(Array.size (putAt (putAt ws 0 (Array.toList (isW (Array.extract ws 0 64)))) (64+Int.toNat (slW (isW (Array.extract ws 0 64)) (iiW (Array.extract ws 0 64)))*12) [Value.int .i64 u,Value.int .i64 q,Value.slice none 0 0,Value.int .i64 0,Value.int .i64 0,Value.int .i64 0,Value.int .i64 0,Value.int .i64 0,Value.int .i64 0,Value.int .i64 0,Value.int .i64 0,Value.int .i64 0])=448∧Array.size (putAt (putAt ws 0 (Array.toList (isW (Array.extract ws 0 64)))) (64+Int.toNat (slW (isW (Array.extract ws 0 64)) (iiW (Array.extract ws 0 64)))*12) [Value.int .i64 u,Value.int .i64 q,Value.slice none 0 0,Value.int .i64 0,Value.int .i64 0,Value.int .i64 0,Value.int .i64 0,Value.int .i64 0,Value.int .i64 0,Value.int .i64 0,Value.int .i64 0,Value.int .i64 0])=448∧True)∧(Array.size (putAt (putAt ws 0 (Array.toList (isW (Array.extract ws 0 64)))) (64+Int.toNat (slW (isW (Array.extract ws 0 64)) (iiW (Array.extract ws 0 64)))*12) [Value.int .i64 u,Value.int .i64 q,Value.slice none 0 0,Value.int .i64 0,Value.int .i64 0,Value.int .i64 0,Value.int .i64 0,Value.int .i64 0,Value.int .i64 0,Value.int .i64 0,Value.int .i64 0,Value.int .i64 0])=448∧True)∧o=putAt (putAt ws 0 (Array.toList (isW (Array.extract ws 0 64)))) (64+Int.toNat (slW (isW (Array.extract ws 0 64)) (iiW (Array.extract ws 0 64)))*12) [Value.int .i64 u,Value.int .i64 q,Value.slice none 0 0,Value.int .i64 0,Value.int .i64 0,Value.int .i64 0,Value.int .i64 0,Value.int .i64 0,Value.int .i64 0,Value.int .i64 0,Value.int .i64 0,Value.int .i64 0]∧h=iiW (Array.extract ws 0 64)∧e=0∧True))
theorem nw0 (ws:Array Value) (u q:Int) (o:Array Value) (h e:Int):(run EI1 1000 0 [callFr 65 Tryd.f65.ntmps [wtS ws,i64 (.o u),i64 (.o q)] (Tryd.f65.body.getD .skip)] e0M).vc (whA o h e) (fun _ _=>False) =
  ((((u != 0)==true)=true→(Array.size ws=448∧True)∧(64≤Array.size ws∧True)∧(WB (Array.extract ws 0 64)∧True)∧((!decide (slW (Array.extract ws 0 64) u≥0))=true→(Array.size ws=448∧True)∧(Array.size ws=448∧Array.size ws=448∧True)∧(Array.size ws=448∧True)∧o=ws∧h=0∧e=4∧True)∧((!decide (slW (Array.extract ws 0 64) u≥0))=false→(nw0_0 ws u q o h e)∧((decide (q<0)==false)=false→(Array.size ws=448∧True)∧(Array.size ws=448∧Array.size ws=448∧True)∧(Array.size ws=448∧True)∧o=ws∧h=0∧e=2∧True)))∧(((u != 0)==true)=false→(nw0_0 ws u q o h e)∧((decide (q<0)==false)=false→(Array.size ws=448∧True)∧(Array.size ws=448∧Array.size ws=448∧True)∧(Array.size ws=448∧True)∧o=ws∧h=0∧e=2∧True))):=by kernel_rfl
noncomputable def se0_0 (ws:Array Value) (h:Int) (rr:Array Value):List Value:=[Value.int .i64 (intAt (Array.setIfInBounds rr 0 (Value.int .i64 (intAt ws (64+Int.toNat (slW (Array.extract ws 0 64) h)*12)))) (0:Nat)),Value.int .i64 (intAt (Array.setIfInBounds rr 0 (Value.int .i64 (intAt ws (64+Int.toNat (slW (Array.extract ws 0 64) h)*12)))) (1:Nat)),Value.slice none 0 0,Value.int .i64 (intAt (Array.setIfInBounds rr 0 (Value.int .i64 (intAt ws (64+Int.toNat (slW (Array.extract ws 0 64) h)*12)))) (3:Nat)),Value.int .i64 (intAt (Array.setIfInBounds rr 0 (Value.int .i64 (intAt ws (64+Int.toNat (slW (Array.extract ws 0 64) h)*12)))) (4:Nat)),Value.int .i64 (intAt (Array.setIfInBounds rr 0 (Value.int .i64 (intAt ws (64+Int.toNat (slW (Array.extract ws 0 64) h)*12)))) (5:Nat)),Value.int .i64 (intAt (Array.setIfInBounds rr 0 (Value.int .i64 (intAt ws (64+Int.toNat (slW (Array.extract ws 0 64) h)*12)))) (6:Nat)),Value.int .i64 (intAt (Array.setIfInBounds rr 0 (Value.int .i64 (intAt ws (64+Int.toNat (slW (Array.extract ws 0 64) h)*12)))) (7:Nat)),Value.int .i64 (intAt (Array.setIfInBounds rr 0 (Value.int .i64 (intAt ws (64+Int.toNat (slW (Array.extract ws 0 64) h)*12)))) (8:Nat)),Value.int .i64 (intAt (Array.setIfInBounds rr 0 (Value.int .i64 (intAt ws (64+Int.toNat (slW (Array.extract ws 0 64) h)*12)))) (9:Nat)),Value.int .i64 (intAt (Array.setIfInBounds rr 0 (Value.int .i64 (intAt ws (64+Int.toNat (slW (Array.extract ws 0 64) h)*12)))) (10:Nat)),Value.int .i64 (intAt (Array.setIfInBounds rr 0 (Value.int .i64 (intAt ws (64+Int.toNat (slW (Array.extract ws 0 64) h)*12)))) (11:Nat))]
noncomputable def se0_1 (ws:Array Value) (h:Int) (rr:Array Value):Array Value:=Array.setIfInBounds rr 0 (Value.int .i64 (intAt ws (64+Int.toNat (slW (Array.extract ws 0 64) h)*12)))
noncomputable def se0_2 (ws:Array Value):Array Value:=Array.extract ws 0 64
noncomputable def se0_3 (ws:Array Value):Prop:=Array.size ws=448∧Array.size ws=448∧True
theorem se0 (ws:Array Value) (h:Int) (rr:Array Value) (o:Array Value) (e:Int):(run EI1 1000 0 [callFr 36 Tryd.f36.ntmps [wtS ws,i64 (.o h),wtS rr] (Tryd.f36.body.getD .skip)] e0M).vc (weA o e) (fun _ _=>False) =
  ((64≤Array.size ws∧True)∧(WB (se0_2 ws)∧True)∧(decide (slW (se0_2 ws) h<0)=true→(Array.size ws=448∧True)∧(se0_3 ws)∧(Array.size ws=448∧True)∧o=ws∧e=4∧True)∧(decide (slW (se0_2 ws) h<0)=false→(IsInt .i64 rr 1∧True)∧((decide (intAt rr 1<0)==false)=true→(IsInt .i64 rr 1∧True)∧((decide (intAt rr 1>64)==false)=true→(rr[(2:Nat)]?=some (Value.slice none 0 0)∧IsInt .i64 rr 3∧True)∧((decide (intAt rr 3≥0)==true)=true→((!decide (intAt rr 3≤0))=true→(Array.size ws=448∧True)∧(se0_3 ws)∧(Array.size ws=448∧True)∧o=ws∧e=2∧True)∧((!decide (intAt rr 3≤0))=false→((0≤slW (se0_2 ws) h∧slW (se0_2 ws) h<32)∧True)∧(IsInt .i64 ws (64+Int.toNat (slW (se0_2 ws) h)*12)∧True)∧(0<Array.size rr∧True)∧(IsInt .i64 (se0_1 ws h rr) 0∧IsInt .i64 (se0_1 ws h rr) 1∧(se0_1 ws h rr)[(2:Nat)]?=some (Value.slice none 0 0)∧IsInt .i64 (se0_1 ws h rr) 3∧IsInt .i64 (se0_1 ws h rr) 4∧IsInt .i64 (se0_1 ws h rr) 5∧IsInt .i64 (se0_1 ws h rr) 6∧IsInt .i64 (se0_1 ws h rr) 7∧IsInt .i64 (se0_1 ws h rr) 8∧IsInt .i64 (se0_1 ws h rr) 9∧IsInt .i64 (se0_1 ws h rr) 10∧IsInt .i64 (se0_1 ws h rr) 11∧True)∧((0≤slW (se0_2 ws) h∧slW (se0_2 ws) h<32)∧True)∧(64+Int.toNat (slW (se0_2 ws) h)*12+List.length (se0_0 ws h rr)≤Array.size ws∧True)∧(Array.size (putAt ws (64+Int.toNat (slW (se0_2 ws) h)*12) (se0_0 ws h rr))=448∧True)∧(Array.size (putAt ws (64+Int.toNat (slW (se0_2 ws) h)*12) (se0_0 ws h rr))=448∧Array.size (putAt ws (64+Int.toNat (slW (se0_2 ws) h)*12) (se0_0 ws h rr))=448∧True)∧(Array.size (putAt ws (64+Int.toNat (slW (se0_2 ws) h)*12) (se0_0 ws h rr))=448∧True)∧o=putAt ws (64+Int.toNat (slW (se0_2 ws) h)*12) (se0_0 ws h rr)∧e=0∧True))∧((decide (intAt rr 3≥0)==true)=false→(Array.size ws=448∧True)∧(se0_3 ws)∧(Array.size ws=448∧True)∧o=ws∧e=2∧True))∧((decide (intAt rr 1>64)==false)=false→(Array.size ws=448∧True)∧(se0_3 ws)∧(Array.size ws=448∧True)∧o=ws∧e=2∧True))∧((decide (intAt rr 1<0)==false)=false→(Array.size ws=448∧True)∧(se0_3 ws)∧(Array.size ws=448∧True)∧o=ws∧e=2∧True))):=by kernel_rfl
set_option linter.unusedVariables false
def rwA (u q:Int) (c:Nat→Int):Array Value:=#[.int .i64 u,.int .i64 q,.slice none 0 0,.int .i64 0,.int .i64 (c 0),.int .i64 (c 1),.int .i64 (c 2),.int .i64 (c 3),.int .i64 (c 4),.int .i64 (c 5),.int .i64 (c 6),.int .i64 (c 7)]
def nmF (ts:Array Value) (i:Nat):Int:=nameI i (ageAt (bkB ts) i)
def rwF (ts:Array Value) (h:Int):Array Value:=rwA (upF ts h) (quF ts h) (ceF ts h)
structure SW (ts ws:Array Value):Prop where
 sz:ws.size=448
 g:∀ i,i<32→ws[i]?=some (.int .i64 (ageAt (bkB ts) i))
 s:∀ i,i<32→ws[32+i]?=some (.int .i64 (kindAt (bkB ts) i))
 r:∀ i,i<32→kindAt (bkB ts) i=1→∀ j,j<12→ws[64+i*12+j]?=(rwF ts (nmF ts i))[j]?
 z:∀ i,i<32→kindAt (bkB ts) i≠1→∀ j,j<12→ws[64+i*12+j]?=(rwA 0 0 fun _=>0)[j]?
section
variable {ts ws:Array Value}
theorem SW.bk (w:SW ts ws) {i:Nat} (hi:i<64):(ws.extract 0 64)[i]?=ws[i]?:=by
 have hz:=w.sz
 rw [ext_get (by omega) (by omega),Nat.zero_add]
theorem SW.gn (w:SW ts ws) {i:Nat} (hi:i<32):gnW (ws.extract 0 64) i=ageAt (bkB ts) i:=intAt_of (by rw [w.bk (by omega)];exact w.g i hi)
theorem SW.kn (w:SW ts ws) {i:Nat} (hi:i<32):knW (ws.extract 0 64) i=kindAt (bkB ts) i:=intAt_of (by rw [w.bk (by omega)];exact w.s i hi)
theorem SW.wb (w:SW ts ws) (hb:TbOk ts):WB (ws.extract 0 64):=by
 have hz:=w.sz
 refine ⟨by rw [ext_size (by omega)],fun i hi=>isI_of (by rw [w.bk (by omega)];exact w.g i hi),fun i hi=>isI_of (by rw [w.bk (by omega)];exact w.s i hi),fun i hi=>?_,fun i hi=>?_⟩
 ·rw [w.gn hi];exact hb.bk.ra i hi
 ·rw [w.kn hi];exact hb.bk.rk i hi
theorem slFrom_of {vs:Array Value} {h:Int} {k:Nat} (h0:∀ j,j<32→knW vs j=1∧nameI j (gnW vs j)=h→j=k) (hk:knW vs k=1∧nameI k (gnW vs k)=h):∀ (n i:Nat),i+n=32→i≤k→k<32→slFrom vs h n i=(k:Int)
 | 0,i,e,h1,h2=>by omega
 | n+1,i,e,h1,h2=>by
  show (if knW vs i=1∧nameI i (gnW vs i)=h then (i:Int) else slFrom vs h n (i+1))=_
  split
  ·rename_i c;rw [h0 i (by omega) c]
  ·rename_i c
   by_cases e2:i=k
   ·rw [e2] at c;exact absurd hk c
   ·exact slFrom_of h0 hk n (i+1) (by omega) (by omega) h2
theorem slFrom_no {vs:Array Value} {h:Int} (h0:∀ j,j<32→¬ (knW vs j=1∧nameI j (gnW vs j)=h)):∀ (n i:Nat),i+n=32→slFrom vs h n i=-1
 | 0,i,e=>rfl
 | n+1,i,e=>by
  show (if knW vs i=1∧nameI i (gnW vs i)=h then (i:Int) else slFrom vs h n (i+1))=_
  rw [if_neg (h0 i (by omega))]
  exact slFrom_no h0 n (i+1) (by omega)
theorem SW.slot (w:SW ts ws) (hb:TbOk ts) (h:Int):slW (ws.extract 0 64) h=if gdF ts h=true then (sl h:Int) else -1:=by
 unfold slW
 split
 ·rename_i hg
  obtain ⟨_,_,h32,hk,hn,_⟩:=good_f hb hg
  refine slFrom_of (k:=sl h) (fun j hj c=>?_) ?_ 32 0 rfl (Nat.zero_le _) h32
  ·rw [w.kn hj,w.gn hj] at c
   exact (name_inj hj h32 (c.2.trans hn)).1
  ·rw [w.kn h32,w.gn h32]
   exact ⟨hk,hn.symm⟩
 ·rename_i hg
  refine slFrom_no (fun j hj c=>?_) 32 0 rfl
  rw [w.kn hj,w.gn hj] at c
  exact hg ((goodB_iff hb.bk).2 ⟨j,hj,c.1,c.2.symm⟩)
theorem SW.cell (w:SW ts ws) (hb:TbOk ts) {h:Int} (hg:gdF ts h=true) {j:Nat} (hj:j<12):ws[64+sl h*12+j]?=(rwF ts h)[j]?:=by
 obtain ⟨_,_,h32,hk,hn,_⟩:=good_f hb hg
 have:=w.r (sl h) h32 hk j hj
 unfold nmF at this
 rw [← hn] at this
 exact this
theorem EI1_ok:EnvOk EI1:=EnvOk.with E0_ok _ _ fun g l m t h=>by
 unfold conI1 at h
 split at h
 ·rename_i ws x;cases h
  exact Con.n1 (rslot_con x.den m)
 ·rename_i ws;cases h
  exact rissue_con m
 ·exact conI0_ok _ _ _ _ h
theorem rgood_con (h:Int) (m:SMem):Con E0 27 [wtS ws,i64 (.o h)] m (needs [SW ts ws,TbOk ts] (.ret (sB (.o (gdF ts h))) m)):=by
 refine Con.pure E0_ok (by kernel_rfl:E0.fn 27=some Tryd.f27) (by kernel_rfl:Tryd.f27.body=some (Tryd.f27.body.getD .skip)) (by kernel_rfl) (by kernel_rfl) fun hq=>?_
 have w:SW ts ws:=hq _ (by simp)
 have hb:TbOk ts:=hq _ (by simp)
 refine (Good.ret [] (run_vc EI1_ok 1000 (rg0 ws h (gdF ts h)) ?_ (fun s m h=>h) fun _ _ h=>h.elim)).mono fun _ _ h=>h.1
 have hz:=w.sz
 have hle:64≤ws.size:=by omega
 have h64:(64:Nat)≤448:=by decide
 have wb:=w.wb hb
 have es:=w.slot hb h
 cases hg:gdF ts h with
 | true =>
  have d:decide (slW (ws.extract 0 64) h≥0)=true:=decide_eq_true (by rw [es,if_pos hg];omega)
  simp only [hz,h64,hle,wb,d,and_true,true_and]
 | false =>
  have d:decide (slW (ws.extract 0 64) h≥0)=false:=decide_eq_false (by rw [es,if_neg (by rw [hg];decide)];omega)
  simp only [hz,h64,hle,wb,d,and_true,true_and]
def gwT (ts:Array Value) (h:Int):Array Value:=if gdF ts h=true then rwF ts h else rwA 0 0 fun _=>0
def gwE (ts:Array Value) (h:Int):Int:=if gdF ts h=true then 0 else 4
theorem rget_con (h:Int) (m:SMem):Con E0 35 [wtS ws,i64 (.o h)] m (needs [SW ts ws,TbOk ts] (.ret (.tup [.agg (.op (gwT ts h)),.c (.f (.int .i64 (.o (gwE ts h))))]) m)):=by
 refine Con.pure E0_ok (by kernel_rfl:E0.fn 35=some Tryd.f35) (by kernel_rfl:Tryd.f35.body=some (Tryd.f35.body.getD .skip)) (by kernel_rfl) (by kernel_rfl) fun hq=>?_
 have w:SW ts ws:=hq _ (by simp)
 have hb:TbOk ts:=hq _ (by simp)
 refine (Good.ret [] (run_vc EI1_ok 1000 (rt0 ws h (gwT ts h) (gwE ts h)) ?_ (fun s m h=>h) fun _ _ h=>h.elim)).mono fun _ _ h=>h.1
 unfold rt0_0
 have hz:=w.sz
 have hle:64≤ws.size:=by omega
 have h64:(64:Nat)≤448:=by decide
 have wb:=w.wb hb
 have es:=w.slot hb h
 cases hg:gdF ts h with
 | true =>
  rw [if_pos hg] at es
  have h32:=(good_f hb hg).2.2.1
  have d:decide ((sl h:Int)<0)=false:=decide_eq_false (by omega)
  have y0:(0:Int)≤(sl h:Int):=by omega
  have y1:(sl h:Int)<32:=by omega
  have c:∀ j,j<12→ws[64+sl h*12+j]?=(rwF ts h)[j]?:=fun j hj=>w.cell hb hg hj
  have c0:ws[64+sl h*12]?=some (.int .i64 (upF ts h)):=c 0 (by decide)
  have c1:ws[64+sl h*12+1]?=some (.int .i64 (quF ts h)):=c 1 (by decide)
  have c2:ws[64+sl h*12+2]?=some (.slice none 0 0):=c 2 (by decide)
  have c3:ws[64+sl h*12+3]?=some (.int .i64 0):=c 3 (by decide)
  have c4:ws[64+sl h*12+4]?=some (.int .i64 (ceF ts h 0)):=c 4 (by decide)
  have c5:ws[64+sl h*12+5]?=some (.int .i64 (ceF ts h 1)):=c 5 (by decide)
  have c6:ws[64+sl h*12+6]?=some (.int .i64 (ceF ts h 2)):=c 6 (by decide)
  have c7:ws[64+sl h*12+7]?=some (.int .i64 (ceF ts h 3)):=c 7 (by decide)
  have c8:ws[64+sl h*12+8]?=some (.int .i64 (ceF ts h 4)):=c 8 (by decide)
  have c9:ws[64+sl h*12+9]?=some (.int .i64 (ceF ts h 5)):=c 9 (by decide)
  have c10:ws[64+sl h*12+10]?=some (.int .i64 (ceF ts h 6)):=c 10 (by decide)
  have c11:ws[64+sl h*12+11]?=some (.int .i64 (ceF ts h 7)):=c 11 (by decide)
  have eT:gwT ts h=rwF ts h:=if_pos hg
  have eE:gwE ts h=0:=if_pos hg
  simp only [hz,h64,hle,wb,d,es,y0,y1,Int.toNat_natCast,c2,isI_of c0,isI_of c1,isI_of c3,isI_of c4,isI_of c5,isI_of c6,isI_of c7,isI_of c8,isI_of c9,isI_of c10,isI_of c11,intAt_of c0,intAt_of c1,intAt_of c3,intAt_of c4,intAt_of c5,intAt_of c6,intAt_of c7,intAt_of c8,intAt_of c9,intAt_of c10,intAt_of c11,eT,eE,q6]
  rfl
 | false =>
  rw [if_neg (by rw [hg];decide)] at es
  have d:decide (slW (ws.extract 0 64) h<0)=true:=decide_eq_true (by rw [es];omega)
  have eT:gwT ts h=rwA 0 0 fun _=>0:=if_neg (by rw [hg];decide)
  have eE:gwE ts h=4:=if_neg (by rw [hg];decide)
  simp only [hz,h64,hle,wb,d,eT,eE,q6]
  rfl
theorem rup_con (h:Int) (m:SMem):Con E0 61 [wtS ws,i64 (.o h)] m (needs [SW ts ws,TbOk ts] (.ret (i64 (.o (upF ts h))) m)):=by
 refine Con.pure E0_ok (by kernel_rfl:E0.fn 61=some Tryd.f61) (by kernel_rfl:Tryd.f61.body=some (Tryd.f61.body.getD .skip)) (by kernel_rfl) (by kernel_rfl) fun hq=>?_
 have w:SW ts ws:=hq _ (by simp)
 have hb:TbOk ts:=hq _ (by simp)
 refine (Good.ret [] (run_vc EI1_ok 1000 (up0 ws h (upF ts h)) ?_ (fun s m h=>h) fun _ _ h=>h.elim)).mono fun _ _ h=>h.1
 unfold up0_0
 have hz:=w.sz
 have hle:64≤ws.size:=by omega
 have h64:(64:Nat)≤448:=by decide
 have wb:=w.wb hb
 have es:=w.slot hb h
 cases hg:gdF ts h with
 | true =>
  rw [if_pos hg] at es
  have h32:=(good_f hb hg).2.2.1
  have d:decide ((sl h:Int)<0)=false:=decide_eq_false (by omega)
  have y0:(0:Int)≤(sl h:Int):=by omega
  have y1:(sl h:Int)<32:=by omega
  have c:∀ j,j<12→ws[64+sl h*12+j]?=(rwF ts h)[j]?:=fun j hj=>w.cell hb hg hj
  have c0:ws[64+sl h*12]?=some (.int .i64 (upF ts h)):=c 0 (by decide)
  have c1:ws[64+sl h*12+1]?=some (.int .i64 (quF ts h)):=c 1 (by decide)
  have c2:ws[64+sl h*12+2]?=some (.slice none 0 0):=c 2 (by decide)
  have c3:ws[64+sl h*12+3]?=some (.int .i64 0):=c 3 (by decide)
  have c4:ws[64+sl h*12+4]?=some (.int .i64 (ceF ts h 0)):=c 4 (by decide)
  have c5:ws[64+sl h*12+5]?=some (.int .i64 (ceF ts h 1)):=c 5 (by decide)
  have c6:ws[64+sl h*12+6]?=some (.int .i64 (ceF ts h 2)):=c 6 (by decide)
  have c7:ws[64+sl h*12+7]?=some (.int .i64 (ceF ts h 3)):=c 7 (by decide)
  have c8:ws[64+sl h*12+8]?=some (.int .i64 (ceF ts h 4)):=c 8 (by decide)
  have c9:ws[64+sl h*12+9]?=some (.int .i64 (ceF ts h 5)):=c 9 (by decide)
  have c10:ws[64+sl h*12+10]?=some (.int .i64 (ceF ts h 6)):=c 10 (by decide)
  have c11:ws[64+sl h*12+11]?=some (.int .i64 (ceF ts h 7)):=c 11 (by decide)
  simp only [hz,h64,hle,wb,d,es,y0,y1,Int.toNat_natCast,c2,isI_of c0,isI_of c1,isI_of c3,isI_of c4,isI_of c5,isI_of c6,isI_of c7,isI_of c8,isI_of c9,isI_of c10,isI_of c11,intAt_of c0,q6]
 | false =>
  rw [if_neg (by rw [hg];decide)] at es
  have d:decide (slW (ws.extract 0 64) h<0)=true:=decide_eq_true (by rw [es];omega)
  have eu:upF ts h=0:=if_neg (by rw [hg];decide)
  simp only [hz,h64,hle,wb,d,eu,q6]
end
set_option linter.unusedVariables false
def i64s (l:List Int):Array Value:=(l.map (Value.int .i64)).toArray
noncomputable def rowW (l:List Int) (m:SMem):Tree:=.br (decide (l.length=0)) (.ret (.s (.c (.f (.lit (.slice none 0 0))))) m) (.ret (.s (.c (.f (.slice m.next (.l 0) (.o l.length) (.full 1))))) (m.new (.pop (i64s l)) 3))
noncomputable def conI2 (ts:Array Value) (g:FuncId) (l:List SV) (m:SMem):Option Tree:=match g,l with
 | 27,[.s (.agg (.op ws)),.s (.c (.f (.int .i64 h)))]=>some (.need [SW ts ws,TbOk ts] (.ret (sB (.o (gdF ts h.den))) m))
 | 35,[.s (.agg (.op ws)),.s (.c (.f (.int .i64 h)))]=>some (.need [SW ts ws,TbOk ts] (.ret (.tup [.agg (.op (gwT ts h.den)),.c (.f (.int .i64 (.o (gwE ts h.den))))]) m))
 | 61,[.s (.agg (.op ws)),.s (.c (.f (.int .i64 h)))]=>some (.need [SW ts ws,TbOk ts] (.ret (i64 (.o (upF ts h.den))) m))
 | g,l=>conI1 g l m
noncomputable def EI2:Env:=⟨Tryd.prog,fnOf,conI1,haltAt [38*1000+3,58*1000+1]⟩
noncomputable def conDp (ts:Array Value) (n:Nat) (g:FuncId) (l:List SV) (m:SMem):Option Tree:=match g,l with
 | 63,[.s (.agg (.op ws)),.s (.c (.f (.int .i64 h)))]=>some (.need [SW ts ws,FIn ts,depF ts h.den<n] (.ret (i64 (.o (depF ts h.den:Int))) m))
 | g,l=>conI2 ts g l m
noncomputable def EDp (ts:Array Value) (n:Nat):Env:=⟨Tryd.prog,fnOf,conDp ts n,haltAt []⟩
noncomputable def qZ_d0:List SIt:=sekF Tryd.f38 3
noncomputable def qZ_F (ws:Array Value) (i:Int):List SFr:=[frOf 38 Tryd.f38 [(1,ptr 0 (.l 0)),(3,nlS),(4,i64 (.o i))] qZ_d0]
noncomputable def qZ_M (ws:Array Value) (i:Int):SMem:=mkM 1 [(0,⟨.op ws,51,true⟩)]
noncomputable def qZ_n (ws:Array Value) (Q:Int→Prop) (fs:List SFr) (m:SMem):Prop:=(match frNth fs 0 with | some f0=>(match rdI f0 4 with | some i=>(match rdP f0 1 with | some p0=>Q i∧subOk 0 [(0,p0)] (qZ_F ws i) (qZ_M ws i) fs m | none=>False) | none=>False) | none=>False)
noncomputable def qS_d0:List SIt:=sekF Tryd.f38 3
noncomputable def qS_F (ws:Array Value) (i:Int) (k:Nat) (cs:Array Value):List SFr:=[frOf 38 Tryd.f38 [(1,ptr 0 (.l 0)),(3,slS 1 k),(4,i64 (.o i))] qS_d0]
noncomputable def qS_M (ws:Array Value) (i:Int) (k:Nat) (cs:Array Value):SMem:=mkM 2 [(0,⟨.op ws,51,true⟩),(1,⟨.pop cs,3,true⟩)]
noncomputable def qS_n (ws:Array Value) (Q:Int→Nat→Array Value→Prop) (fs:List SFr) (m:SMem):Prop:=(match frNth fs 0 with | some f0=>(match rdI f0 4 with | some i=>(match rdP f0 1 with | some p0=>(match rdSI f0 3 with | some p1=>(match rdSN f0 3 with | some k=>(match rdA m p1 with | some cs=>Q i k cs∧subOk 0 [(0,p0),(1,p1)] (qS_F ws i k cs) (qS_M ws i k cs) fs m | none=>False) | none=>False) | none=>False) | none=>False) | none=>False) | none=>False)
noncomputable def qA_d0:List SIt:=sekF Tryd.f58 1
noncomputable def qA_F (ws:Array Value) (a:Int) (h:Int):List SFr:=[frOf 58 Tryd.f58 [(1,i64 (.o a)),(2,i64 (.o h)),(3,ptr 0 (.l 0))] qA_d0]
noncomputable def qA_M (ws:Array Value) (a:Int) (h:Int):SMem:=mkM 1 [(0,⟨.op ws,51,true⟩)]
noncomputable def qA_n (ws:Array Value) (a:Int) (Q:Int→Prop) (fs:List SFr) (m:SMem):Prop:=(match frNth fs 0 with | some f0=>(match rdI f0 2 with | some h=>(match rdP f0 3 with | some p0=>Q h∧subOk 0 [(0,p0)] (qA_F ws a h) (qA_M ws a h) fs m | none=>False) | none=>False) | none=>False)
noncomputable def qZS (ws:Array Value) (QZ:Int→Prop) (QS:Int→Nat→Array Value→Prop) (fs:List SFr) (m:SMem):Prop:=match fs with | f :: _=>(match f.tm.get 3 with | some (.s (.c (.f (.slice _ _ _ _))))=>qS_n ws QS fs m | _=>qZ_n ws QZ fs m) | []=>False
noncomputable def qz1_t (ws:Array Value) (i:Int):Tree:=stepT EI2.go (run EI2 1000) 0 (qZ_F ws i) (qZ_M ws i)
noncomputable def qs1_t (ws:Array Value) (i:Int) (k:Nat) (cs:Array Value):Tree:=stepT EI2.go (run EI2 1000) 0 (qS_F ws i k cs) (qS_M ws i k cs)
noncomputable def qa1_t (ws:Array Value) (a h:Int):Tree:=stepT EI2.go (run EI2 1000) 0 (qA_F ws a h) (qA_M ws a h)
theorem qZ_d0_ok (r:Nat→Option Nat):TodoOk r qZ_d0 qZ_d0:=TodoOk.it (by kernel_rfl)
theorem qS_d0_ok (r:Nat→Option Nat):TodoOk r qS_d0 qS_d0:=TodoOk.it (by kernel_rfl)
theorem qA_d0_ok (r:Nat→Option Nat):TodoOk r qA_d0 qA_d0:=TodoOk.it (by kernel_rfl)
theorem qZ_good {A:SV→SMem→Prop} {ws:Array Value} {Q:Int→Prop} {fs:List SFr} {m:SMem} (H:∀ i,Q i→Good Tryd.prog A 0 (qZ_F ws i) (qZ_M ws i)) (hb:qZ_n ws Q fs m):Good Tryd.prog A 0 fs m:=by
 unfold qZ_n at hb
 iterate 3 (split at hb;rotate_left;exact hb.elim)
 exact Good.of_sub hb.2 (H _ hb.1)
theorem qS_good {A:SV→SMem→Prop} {ws:Array Value} {Q:Int→Nat→Array Value→Prop} {fs:List SFr} {m:SMem} (H:∀ i k cs,Q i k cs→Good Tryd.prog A 0 (qS_F ws i k cs) (qS_M ws i k cs)) (hb:qS_n ws Q fs m):Good Tryd.prog A 0 fs m:=by
 unfold qS_n at hb
 iterate 6 (split at hb;rotate_left;exact hb.elim)
 exact Good.of_sub hb.2 (H _ _ _ hb.1)
theorem qA_good {A:SV→SMem→Prop} {ws:Array Value} {a:Int} {Q:Int→Prop} {fs:List SFr} {m:SMem} (H:∀ h,Q h→Good Tryd.prog A 0 (qA_F ws a h) (qA_M ws a h)) (hb:qA_n ws a Q fs m):Good Tryd.prog A 0 fs m:=by
 unfold qA_n at hb
 iterate 3 (split at hb;rotate_left;exact hb.elim)
 exact Good.of_sub hb.2 (H _ hb.1)
set_option maxRecDepth 100000
theorem qa0 (ws:Array Value) (Q:Int→Prop):(run EI2 1000 0 [callFr 38 Tryd.f38.ntmps [wtS ws] (Tryd.f38.body.getD .skip)] e0M).vc (fun _ _=>False) (qZ_n ws Q) =
  (Q (0:Int)∧cN∧TodoOk (ren 0 [(0,0)]) qZ_d0 qZ_d0∧Value.slice none 0 0=Value.slice none 0 0∧(0:Int)=(0:Int)∧51=51∧ws=ws∧True):=by kernel_rfl
theorem qzN (ws:Array Value) (i:Int) (QZ:Int→Prop) (QS:Int→Nat→Array Value→Prop):(qz1_t ws i).vc nilA (qZS ws QZ QS) =
  ((decide (i<32)=true→((0≤i∧i<32)∧True)∧(IsInt .i64 ws (32+Int.toNat i*1)∧True)∧((intAt ws (32+Int.toNat i*1)==1)=true→(64≤Array.size ws∧True)∧(WB (Array.extract ws 0 64)∧(0≤i∧i<32)∧True)∧QS (ari .add .i64 i 1) (1:Nat) #[Value.int .i64 (nameI (Int.toNat i) (gnW (Array.extract ws 0 64) (Int.toNat i)))]∧cN∧TodoOk (ren 0 [(0,0),(1,2)]) qZ_d0 qZ_d0∧(1:Nat)=1∧ari .add .i64 i 1=ari .add .i64 i 1∧51=51∧ws=ws∧3=3∧#[Value.int .i64 (nameI (Int.toNat i) (gnW (Array.extract ws 0 64) (Int.toNat i)))]=#[Value.int .i64 (nameI (Int.toNat i) (gnW (Array.extract ws 0 64) (Int.toNat i)))]∧True)∧((intAt ws (32+Int.toNat i*1)==1)=false→QZ (ari .add .i64 i 1)∧cN∧TodoOk (ren 0 [(0,0)]) qZ_d0 qZ_d0∧Value.slice none 0 0=Value.slice none 0 0∧ari .add .i64 i 1=ari .add .i64 i 1∧51=51∧ws=ws∧True))∧(decide (i<32)=false→Value.slice none 0 0=Value.slice none 0 0∧True)):=by kernel_rfl
theorem qzF (ws:Array Value) (i:Int) (kF:Nat) (csF:Array Value) (QZ:Int→Prop) (QS:Int→Nat→Array Value→Prop):(qz1_t ws i).vc (freshA kF csF 3) (qZS ws QZ QS) =
  ((decide (i<32)=true→((0≤i∧i<32)∧True)∧(IsInt .i64 ws (32+Int.toNat i*1)∧True)∧((intAt ws (32+Int.toNat i*1)==1)=true→(64≤Array.size ws∧True)∧(WB (Array.extract ws 0 64)∧(0≤i∧i<32)∧True)∧QS (ari .add .i64 i 1) (1:Nat) #[Value.int .i64 (nameI (Int.toNat i) (gnW (Array.extract ws 0 64) (Int.toNat i)))]∧cN∧TodoOk (ren 0 [(0,0),(1,2)]) qZ_d0 qZ_d0∧(1:Nat)=1∧ari .add .i64 i 1=ari .add .i64 i 1∧51=51∧ws=ws∧3=3∧#[Value.int .i64 (nameI (Int.toNat i) (gnW (Array.extract ws 0 64) (Int.toNat i)))]=#[Value.int .i64 (nameI (Int.toNat i) (gnW (Array.extract ws 0 64) (Int.toNat i)))]∧True)∧((intAt ws (32+Int.toNat i*1)==1)=false→QZ (ari .add .i64 i 1)∧cN∧TodoOk (ren 0 [(0,0)]) qZ_d0 qZ_d0∧Value.slice none 0 0=Value.slice none 0 0∧ari .add .i64 i 1=ari .add .i64 i 1∧51=51∧ws=ws∧True))∧(decide (i<32)=false→False)):=by kernel_rfl
theorem qsF (ws:Array Value) (i:Int) (k:Nat) (cs:Array Value) (kF:Nat) (csF:Array Value) (QS:Int→Nat→Array Value→Prop):(qs1_t ws i k cs).vc (freshA kF csF 3) (qS_n ws QS) =
  ((decide (i<32)=true→((0≤i∧i<32)∧True)∧(IsInt .i64 ws (32+Int.toNat i*1)∧True)∧((intAt ws (32+Int.toNat i*1)==1)=true→(64≤Array.size ws∧True)∧(WB (Array.extract ws 0 64)∧(0≤i∧i<32)∧True)∧(((k+1)*8≤140737488355328∧k+1≤140737488355328)∧k*1=Array.size cs∧True)∧QS (ari .add .i64 i 1) (k+1) (cs++#[Value.int .i64 (nameI (Int.toNat i) (gnW (Array.extract ws 0 64) (Int.toNat i)))])∧cN∧TodoOk (ren 0 [(0,0),(1,3)]) qZ_d0 qZ_d0∧k+1=k+1∧ari .add .i64 i 1=ari .add .i64 i 1∧51=51∧ws=ws∧3=3∧cs++#[Value.int .i64 (nameI (Int.toNat i) (gnW (Array.extract ws 0 64) (Int.toNat i)))]=cs++#[Value.int .i64 (nameI (Int.toNat i) (gnW (Array.extract ws 0 64) (Int.toNat i)))]∧True)∧((intAt ws (32+Int.toNat i*1)==1)=false→QS (ari .add .i64 i 1) k cs∧cN∧TodoOk (ren 0 [(0,0),(1,1)]) qZ_d0 qZ_d0∧k=k∧ari .add .i64 i 1=ari .add .i64 i 1∧51=51∧ws=ws∧3=3∧cs=cs∧True))∧(decide (i<32)=false→kF=k∧3=3∧csF=cs∧True)):=by kernel_rfl
theorem abv0 (ws:Array Value) (a h:Int) (Q:Int→Prop):(run EI2 1000 0 [callFr 58 Tryd.f58.ntmps [wtS ws,i64 (.o a),i64 (.o h)] (Tryd.f58.body.getD .skip)] e0M).vc (fun _ _=>False) (qA_n ws a Q) =
  (Q h∧cN∧TodoOk (ren 0 [(0,0)]) qA_d0 qA_d0∧a=a∧h=h∧51=51∧ws=ws∧True):=by kernel_rfl
theorem abv1 (ws:Array Value) (a h:Int) (o:Bool) (Q:Int→Prop):(qa1_t ws a h).vc (retOk 0 [] (sB (.o o)) e0M) (qA_n ws a Q) =
  (((h != 0)=true→(64≤Array.size ws∧True)∧(WB (Array.extract ws 0 64)∧True)∧((0≤slW (Array.extract ws 0 64) h∧slW (Array.extract ws 0 64) h<32)∧True)∧(IsInt .i64 ws (64+Int.toNat (slW (Array.extract ws 0 64) h)*12)∧True)∧((intAt ws (64+Int.toNat (slW (Array.extract ws 0 64) h)*12)==a)=true→o=(a != 0)∧True)∧((intAt ws (64+Int.toNat (slW (Array.extract ws 0 64) h)*12)==a)=false→Q (intAt ws (64+Int.toNat (slW (Array.extract ws 0 64) h)*12))∧cN∧TodoOk (ren 0 [(0,0)]) qA_d0 qA_d0∧a=a∧intAt ws (64+Int.toNat (slW (Array.extract ws 0 64) h)*12)=intAt ws (64+Int.toNat (slW (Array.extract ws 0 64) h)*12)∧51=51∧ws=ws∧True))∧((h != 0)=false→o=false∧True)):=by kernel_rfl
theorem dp0 (ts:Array Value) (n:Nat) (ws:Array Value) (h o:Int):(run (EDp ts n) 1000 0 [callFr 63 Tryd.f63.ntmps [wtS ws,i64 (.o h)] (Tryd.f63.body.getD .skip)] e0M).vc (retOk 0 [] (i64 (.o o)) e0M) (fun _ _=>False) =
  ((Array.size ws=448∧True)∧(SW ts ws∧TbOk ts∧True)∧((!gdF ts h)=true→o=0∧True)∧((!gdF ts h)=false→(Array.size ws=448∧True)∧(Array.size ws=448∧True)∧(SW ts ws∧TbOk ts∧True)∧(SW ts ws∧FIn ts∧depF ts (upF ts h)<n∧True)∧o=ari .add .i64 (1:Int) (↑(depF ts (upF ts h)):Int)∧True)):=by kernel_rfl
set_option linter.unusedVariables false
theorem conI1_ok:∀ g l m t,conI1 g l m=some t→Con E0 g l m t:=fun g l m t h=>by
 unfold conI1 at h
 split at h
 ·rename_i ws x;cases h
  exact Con.n1 (rslot_con x.den m)
 ·rename_i ws;cases h
  exact rissue_con m
 ·exact conI0_ok _ _ _ _ h
theorem EI2_ok:EnvOk EI2:=EnvOk.with E0_ok _ _ conI1_ok
theorem conI2_ok (ts:Array Value):∀ g l m t,conI2 ts g l m=some t→Con E0 g l m t:=by
 intro g l m t h
 unfold conI2 at h
 split at h
 ·rename_i ws x;cases h
  exact Con.n1 (rgood_con x.den m)
 ·rename_i ws x;cases h
  exact Con.n1 (rget_con x.den m)
 ·rename_i ws x;cases h
  exact Con.n1 (rup_con x.den m)
 ·exact conI1_ok _ _ _ _ h
theorem i64s_size (l:List Int):(i64s l).size=l.length:=by unfold i64s;rw [List.size_toArray,List.length_map]
theorem i64s_app (l:List Int) (x:Int):i64s (l++[x])=i64s l++#[.int .i64 x]:=by unfold i64s;simp
theorem i64s_one (x:Int):i64s [x]=#[.int .i64 x]:=rfl
theorem i64s_at {l:List Int} {i:Nat} (hi:i<l.length):(i64s l)[i]?=some (.int .i64 (l.getD i 0)):=by
 unfold i64s
 rw [List.getElem?_toArray,List.getElem?_map,List.getD_eq_getElem?_getD,List.getElem?_eq_getElem hi]
 rfl
section
variable {ts ws:Array Value}
theorem qZS_good {A:SV→SMem→Prop} {QZ:Int→Prop} {QS:Int→Nat→Array Value→Prop} {fs:List SFr} {m:SMem} (hz:∀ i,QZ i→Good Tryd.prog A 0 (qZ_F ws i) (qZ_M ws i)) (hs:∀ i k cs,QS i k cs→Good Tryd.prog A 0 (qS_F ws i k cs) (qS_M ws i k cs)) (hb:qZS ws QZ QS fs m):Good Tryd.prog A 0 fs m:=by
 unfold qZS at hb
 split at hb
 ·split at hb
  ·exact qS_good hs hb
  ·exact qZ_good hz hb
 ·exact hb.elim
theorem qS_ok (w:SW ts ws) (hb:TbOk ts):∀ (n i:Nat),i+n=32→Good Tryd.prog (freshA (lvT ts).length (i64s (lvT ts)) 3) 0 (qS_F ws (i:Int) (issL (bkB ts) i).length (i64s (issL (bkB ts) i))) (qS_M ws (i:Int) (issL (bkB ts) i).length (i64s (issL (bkB ts) i))):=by
 have hz:=w.sz
 have h64:(64:Nat)≤448:=by decide
 have wb:=w.wb hb
 intro n
 induction n with
 | zero =>
  intro i hi
  obtain rfl:i=32:=by omega
  refine past_vc EI2_ok 1000 (qsF ws ((32:Nat):Int) _ _ (lvT ts).length (i64s (lvT ts)) (fun _ _ _=>False)) ?_ (fun _ _ h=>h) (fun fs m hb=>qS_good (fun _ _ _ h=>h.elim) hb)
  have d:decide (((32:Nat):Int)<32)=false:=rfl
  simp only [d,lvT,issued,q6]
 | succ n ih =>
  intro i hi
  have hi':i<32:=by omega
  refine past_vc EI2_ok 1000 (qsF ws (i:Int) _ _ (lvT ts).length (i64s (lvT ts)) (fun i' k' c'=>i'=((i+1:Nat):Int)∧k'=(issL (bkB ts) (i+1)).length∧c'=i64s (issL (bkB ts) (i+1)))) ?_ (fun _ _ h=>h) (fun fs m hb=>qS_good (fun i' k' c' ⟨e1,e2,e3⟩=>by rw [e1,e2,e3];exact ih (i+1) (by omega)) hb)
  have y0:0≤(i:Int):=by omega
  have y1:(i:Int)<32:=by omega
  have d:decide ((i:Int)<32)=true:=decide_eq_true y1
  have ei:ari .add .i64 (i:Int) 1=((i+1:Nat):Int):=by rw [ari_add,i64_in' (by omega) (by omega)];omega
  have s1:=isI_of (w.s i hi')
  have s2:=intAt_of (w.s i hi')
  have s3:=w.gn hi'
  have hle:=issL_le (bs:=bkB ts) i
  have z1:((issL (bkB ts) i).length+1)*8≤140737488355328∧(issL (bkB ts) i).length+1≤140737488355328:=⟨by omega,by omega⟩
  by_cases c:kindAt (bkB ts) i=1
  ·have c1:(kindAt (bkB ts) i==1)=true:=beq_iff_eq.2 c
   simp only [d,ei,y0,y1,s1,s2,s3,z1,hz,h64,wb,c,c1,i64s_size,i64s_app,issL_succ,if_true,List.length_append,List.length_cons,List.length_nil,beq_self_eq_true,decide_true,qZ_d0_ok,qS_d0_ok,q7,q6]
  ·have c1:(kindAt (bkB ts) i==1)=false:=beq_eq_false_iff_ne.2 c
   simp only [Int.toNat_natCast,Nat.mul_one,d,ei,y0,y1,s1,s2,hz,h64,wb,c1,issL_succ,if_neg c,decide_true,qZ_d0_ok,qS_d0_ok,q6]
theorem qZ_s (w:SW ts ws) (hb:TbOk ts) (hne:lvT ts≠[]):∀ (n i:Nat),i+n=32→issL (bkB ts) i=[]→Good Tryd.prog (freshA (lvT ts).length (i64s (lvT ts)) 3) 0 (qZ_F ws (i:Int)) (qZ_M ws (i:Int)):=by
 have hz:=w.sz
 have h64:(64:Nat)≤448:=by decide
 have wb:=w.wb hb
 intro n
 induction n with
 | zero =>
  intro i hi he
  obtain rfl:i=32:=by omega
  exact absurd he hne
 | succ n ih =>
  intro i hi he
  have hi':i<32:=by omega
  refine past_vc EI2_ok 1000 (qzF ws (i:Int) (lvT ts).length (i64s (lvT ts)) (fun i'=>i'=((i+1:Nat):Int)∧issL (bkB ts) (i+1)=[]) (fun i' k' c'=>i'=((i+1:Nat):Int)∧k'=(issL (bkB ts) (i+1)).length∧c'=i64s (issL (bkB ts) (i+1)))) ?_ (fun _ _ h=>h) (fun fs m hb'=>qZS_good (fun i' ⟨e1,e2⟩=>by rw [e1];exact ih (i+1) (by omega) e2) (fun i' k' c' ⟨e1,e2,e3⟩=>by rw [e1,e2,e3];exact qS_ok w hb n (i+1) (by omega)) hb')
  have y0:0≤(i:Int):=by omega
  have y1:(i:Int)<32:=by omega
  have d:decide ((i:Int)<32)=true:=decide_eq_true y1
  have ei:ari .add .i64 (i:Int) 1=((i+1:Nat):Int):=by rw [ari_add,i64_in' (by omega) (by omega)];omega
  have s1:=isI_of (w.s i hi')
  have s2:=intAt_of (w.s i hi')
  have s3:=w.gn hi'
  by_cases c:kindAt (bkB ts) i=1
  ·have c1:(kindAt (bkB ts) i==1)=true:=beq_iff_eq.2 c
   simp only [d,ei,y0,y1,s1,s2,s3,hz,h64,wb,c,c1,he,issL_succ,if_true,List.nil_append,List.length_cons,List.length_nil,beq_self_eq_true,decide_true,qZ_d0_ok,qS_d0_ok,q7,q6]
   rfl
  ·have c1:(kindAt (bkB ts) i==1)=false:=beq_eq_false_iff_ne.2 c
   simp only [Int.toNat_natCast,Nat.mul_one,d,ei,y0,y1,s1,s2,hz,h64,wb,c1,he,issL_succ,if_neg c,decide_true,qZ_d0_ok,qS_d0_ok,q6]
theorem qZ_nn (w:SW ts ws) (hb:TbOk ts) (hne:lvT ts=[]):∀ (n i:Nat),i+n=32→Good Tryd.prog nilA 0 (qZ_F ws (i:Int)) (qZ_M ws (i:Int)):=by
 have hz:=w.sz
 have h64:(64:Nat)≤448:=by decide
 have wb:=w.wb hb
 intro n
 induction n with
 | zero =>
  intro i hi
  obtain rfl:i=32:=by omega
  refine past_vc EI2_ok 1000 (qzN ws ((32:Nat):Int) (fun _=>False) (fun _ _ _=>False)) ?_ (fun _ _ h=>h) (fun fs m hb=>qZS_good (fun _ h=>h.elim) (fun _ _ _ h=>h.elim) hb)
  have d:decide (((32:Nat):Int)<32)=false:=rfl
  simp only [d,q6]
 | succ n ih =>
  intro i hi
  have hi':i<32:=by omega
  refine past_vc EI2_ok 1000 (qzN ws (i:Int) (fun i'=>i'=((i+1:Nat):Int)) (fun _ _ _=>False)) ?_ (fun _ _ h=>h) (fun fs m hb'=>qZS_good (fun i' e1=>by rw [e1];exact ih (i+1) (by omega)) (fun _ _ _ h=>h.elim) hb')
  have y0:0≤(i:Int):=by omega
  have y1:(i:Int)<32:=by omega
  have d:decide ((i:Int)<32)=true:=decide_eq_true y1
  have ei:ari .add .i64 (i:Int) 1=((i+1:Nat):Int):=by rw [ari_add,i64_in' (by omega) (by omega)];omega
  have s1:=isI_of (w.s i hi')
  have s2:=intAt_of (w.s i hi')
  have he:=issL_pre (bkB ts) (i:=i+1) (by omega) hne
  have c:¬ kindAt (bkB ts) i=1:=by
   intro c
   rw [issL_succ,if_pos c] at he
   simp at he
  have c1:(kindAt (bkB ts) i==1)=false:=beq_eq_false_iff_ne.2 c
  simp only [Int.toNat_natCast,Nat.mul_one,d,ei,y0,y1,s1,s2,hz,h64,wb,c1,decide_true,qZ_d0_ok,qS_d0_ok,q6]
theorem rall_con (m:SMem):Con E0 38 [wtS ws] m (.need [SW ts ws,TbOk ts] (rowW (lvT ts) m)):=by
 refine Con.asked fun hq=>?_
 have w:SW ts ws:=hq _ (by simp)
 have hb:TbOk ts:=hq _ (by simp)
 refine Con.two (fun h=>?_) (fun h=>?_)
 ·have he:lvT ts=[]:=List.eq_nil_of_length_eq_zero (of_decide_eq_true h)
  refine (show Con E0 38 [wtS ws] m (needs [] _) from Con.pure E0_ok (by kernel_rfl:E0.fn 38=some Tryd.f38) (by kernel_rfl:Tryd.f38.body=some (Tryd.f38.body.getD .skip)) (by kernel_rfl) (by kernel_rfl) fun hq=>?_)
  refine (Good.ret (s0m:=e0M) [] (run_vc EI2_ok 1000 (qa0 ws (fun i=>i=((0:Nat):Int))) ?_ (fun s m h=>h.elim) fun fs m h=>qZ_good (fun i e=>by rw [e];exact qZ_nn w hb he 32 0 (by omega)) h)).mono fun _ _ h=>h.1
  simp only [and_true,true_and,qZ_d0_ok,cNt]
  rfl
 ·have he:lvT ts≠[]:=fun e=>by
   have:=of_decide_eq_false h
   rw [e] at this
   exact this rfl
  refine (show Con E0 38 [wtS ws] m (needs [] _) from Con.fresh E0_ok (by kernel_rfl:E0.fn 38=some Tryd.f38) (by kernel_rfl:Tryd.f38.body=some (Tryd.f38.body.getD .skip)) (by kernel_rfl) rfl fun _=>?_)
  refine Good.retX ((run_vc EI2_ok 1000 (qa0 ws (fun i=>i=((0:Nat):Int))) ?_ (fun s m h=>h.elim) fun fs m h=>qZ_good (A:=freshA (lvT ts).length (i64s (lvT ts)) 3) (fun i e=>by rw [e];exact qZ_s w hb he 32 0 (by omega) rfl) h).mono fun s m h=>?_)
  ·simp only [and_true,true_and,qZ_d0_ok,cNt]
   rfl
  ·unfold freshA at h
   split at h
   ·exact ⟨_,h⟩
   ·exact h.elim
def abF (ts:Array Value) (a h:Int):Bool:=decide (a∈chL (upF ts) (upF ts h))
theorem up_0:upF ts 0=0:=by
 have g:gdF ts 0=false:=by
  show goodB (bkB ts) 0=false
  unfold goodB slotOk
  rw [decide_eq_false (by omega)];rfl
 unfold upF
 rw [g]
 rfl
theorem up_cl (hf:FIn ts) {x:Int} (hx:x∈lvT ts):upF ts x=0∨upF ts x∈lvT ts:=hf.fo.cl x hx
theorem qA_ok (w:SW ts ws) (hf:FIn ts) (a:Int):∀ h,h=0∨h∈lvT ts→Good Tryd.prog (retOk 0 [] (sB (.o (abF ts a h))) e0M) 0 (qA_F ws a h) (qA_M ws a h):=by
 have hb:=hf.ok
 have hz:=w.sz
 have h64:(64:Nat)≤448:=by decide
 have wb:=w.wb hb
 refine up_ind hf.fo ?_ ?_
 ·refine past_vc EI2_ok 1000 (abv1 ws a 0 (abF ts a 0) (fun _=>False)) ?_ (fun _ _ h=>h) (fun fs m hb=>qA_good (fun _ h=>h.elim) hb)
  have d:((0:Int) != 0)=false:=rfl
  have e:abF ts a 0=false:=by unfold abF;rw [up_0,ch_zero];rfl
  simp only [d,e,q6]
 ·intro h hx ih
  have hg:=(lv_mem hb).1 hx
  have h0:(h != 0)=true:=bne_iff_ne.2 (hf.fo.nz h hx)
  have es:=w.slot hb h
  rw [if_pos hg] at es
  have h32:=(good_f hb hg).2.2.1
  have y0:(0:Int)≤(sl h:Int):=by omega
  have y1:(sl h:Int)<32:=by omega
  have c0:ws[64+sl h*12]?=some (.int .i64 (upF ts h)):=w.cell hb hg (j:=0) (by decide)
  have i0:=isI_of c0
  have i1:=intAt_of c0
  by_cases c:upF ts h=a
  ·refine past_vc EI2_ok 1000 (abv1 ws a h (abF ts a h) (fun _=>False)) ?_ (fun _ _ h=>h) (fun fs m hb=>qA_good (fun _ h=>h.elim) hb)
   have c1:(upF ts h==a)=true:=beq_iff_eq.2 c
   have e:abF ts a h=(a != 0):=by
    unfold abF
    rw [c]
    rcases up_cl hf hx with k | k
    ·rw [← c,k,ch_zero];rfl
    ·rw [c] at k
     rw [ch_cons hf.fo k,decide_eq_true (List.mem_cons_self ..)]
     exact (bne_iff_ne.2 (hf.fo.nz a k)).symm
   simp only [Int.toNat_natCast,h0,hz,h64,wb,es,y0,y1,i0,i1,c1,e,q6]
  ·have e:abF ts a h=abF ts a (upF ts h):=by
    unfold abF
    rcases up_cl hf hx with k | k
    ·rw [k,up_0]
    ·rw [ch_cons hf.fo k]
     by_cases q:a∈chL (upF ts) (upF ts (upF ts h))
     ·rw [decide_eq_true q,decide_eq_true (List.mem_cons_of_mem _ q)]
     ·rw [decide_eq_false q,decide_eq_false (fun r=>(List.mem_cons.1 r).elim (fun r=>c r.symm) q)]
   rw [e]
   refine past_vc EI2_ok 1000 (abv1 ws a h (abF ts a (upF ts h)) (fun h'=>h'=upF ts h)) ?_ (fun _ _ h=>h) (fun fs m hb=>qA_good (fun h' e=>by rw [e];exact ih) hb)
   have c1:(upF ts h==a)=false:=beq_eq_false_iff_ne.2 c
   simp only [Int.toNat_natCast,h0,hz,h64,wb,es,y0,y1,i0,i1,c1,qA_d0_ok,q6]
theorem rabove_con (a h:Int) (m:SMem):Con E0 58 [wtS ws,i64 (.o a),i64 (.o h)] m (needs [SW ts ws,FIn ts,h=0∨gdF ts h=true] (.ret (sB (.o (abF ts a h))) m)):=by
 refine Con.pure E0_ok (by kernel_rfl:E0.fn 58=some Tryd.f58) (by kernel_rfl:Tryd.f58.body=some (Tryd.f58.body.getD .skip)) (by kernel_rfl) (by kernel_rfl) fun hq=>?_
 have w:SW ts ws:=hq _ (by simp)
 have hf:FIn ts:=hq _ (by simp)
 have hh:h=0∨gdF ts h=true:=hq _ (by simp)
 refine (Good.ret (s0m:=e0M) [] (run_vc EI2_ok 1000 (abv0 ws a h (fun h'=>h'=h)) ?_ (fun s m h=>h.elim) fun fs m hm=>qA_good (fun h' e=>by rw [e];exact qA_ok w hf a h (hh.imp id (lv_mem hf.ok).2)) hm)).mono fun _ _ h=>h.1
 simp only [and_true,true_and,qA_d0_ok,cNt]
theorem dep_up (hf:FIn ts) {x:Int} (hg:gdF ts x=true):depF ts x=depF ts (upF ts x)+1:=by
 have hx:=(lv_mem hf.ok).2 hg
 have e1:depF ts x=depL (upF ts) x:=if_pos hg
 have e2:depF ts (upF ts x)=depL (upF ts) (upF ts x):=by
  rcases up_cl hf hx with k | k
  ·rw [k,dep_zero]
   unfold depF
   split
   ·exact dep_zero
   ·rfl
  ·exact if_pos ((lv_mem hf.ok).1 k)
 rw [e1,e2]
 exact dep_cons hf.fo hx
theorem levels (ts:Array Value):∀ n:Nat,∀ (ws:Array Value) (h:Int) (m:SMem),Con E0 63 [wtS ws,i64 (.o h)] m (.need [SW ts ws,FIn ts,depF ts h<n] (.ret (i64 (.o (depF ts h:Int))) m)):=by
 intro n
 induction n with
 | zero =>
  refine fun ws h m=>Con.asked fun hq=>?_
  have:depF ts h<0:=hq _ (by simp)
  exact absurd this (Nat.not_lt_zero _)
 | succ n ih =>
  have hE:EnvOk (EDp ts n):=EnvOk.with E0_ok _ _ fun g l m t h=>by
   unfold conDp at h
   split at h
   ·rename_i ws x;cases h
    exact Con.n1 (ih ws x.den m)
   ·exact conI2_ok ts _ _ _ _ h
  refine fun ws h m=>?_
  ·refine Con.asked fun hq=>?_
   refine (show Con E0 63 [wtS ws,i64 (.o h)] m (needs [] _) from Con.pure E0_ok (by kernel_rfl:E0.fn 63=some Tryd.f63) (by kernel_rfl:Tryd.f63.body=some (Tryd.f63.body.getD .skip)) (by kernel_rfl) (by kernel_rfl) fun _=>?_)
   have w:SW ts ws:=hq _ (by simp)
   have hf:FIn ts:=hq _ (by simp)
   have hd:depF ts h<n+1:=hq _ (by simp)
   refine (Good.ret [] (run_vc hE 1000 (dp0 ts n ws h (depF ts h:Int)) ?_ (fun s m h=>h) fun _ _ h=>h.elim)).mono fun _ _ h=>h.1
   have hz:=w.sz
   have hb:=hf.ok
   cases hg:gdF ts h with
   | false =>
    have e:depF ts h=0:=if_neg (by rw [hg];decide)
    simp only [hz,w,hb,hg,e,Bool.not_false,q6]
    rfl
   | true =>
    have e:=dep_up hf hg
    have h13:=dep_13 hf h
    have e2:ari .add .i64 1 (depF ts (upF ts h):Int)=(depF ts h:Int):=by rw [ari_add,i64_in' (by omega) (by omega)];omega
    have e3:depF ts (upF ts h)<n:=by omega
    simp only [hz,w,hb,hf,hg,e2,e3,Bool.not_true,q6]
theorem rdepth_con (h:Int) (m:SMem):Con E0 63 [wtS ws,i64 (.o h)] m (.need [SW ts ws,FIn ts] (.ret (i64 (.o (depF ts h:Int))) m)):=by
 intro A hs
 refine levels ts (depF ts h+1) ws h m A ⟨fun p hp=>?_,hs.2⟩
 simp only [List.mem_cons,List.not_mem_nil,or_false] at hp
 rcases hp with rfl | rfl | rfl
 ·exact hs.1 _ (by simp)
 ·exact hs.1 _ (by simp)
 ·exact Nat.lt_succ_self _
end
set_option linter.unusedVariables false
noncomputable def conI3 (ts:Array Value) (g:FuncId) (l:List SV) (m:SMem):Option Tree:=match g,l with
 | 38,[.s (.agg (.op ws))]=>some (.need [SW ts ws,TbOk ts] (rowW (lvT ts) m))
 | 58,[.s (.agg (.op ws)),.s (.c (.f (.int .i64 a))),.s (.c (.f (.int .i64 h)))]=>some (.need [SW ts ws,FIn ts,h.den=0∨gdF ts h.den=true] (.ret (sB (.o (abF ts a.den h.den))) m))
 | 63,[.s (.agg (.op ws)),.s (.c (.f (.int .i64 h)))]=>some (.need [SW ts ws,FIn ts] (.ret (i64 (.o (depF ts h.den:Int))) m))
 | g,l=>conI2 ts g l m
noncomputable def EI3 (ts:Array Value):Env:=⟨Tryd.prog,fnOf,conI3 ts,haltAt [77*1000+4]⟩
noncomputable def EI3z (ts:Array Value):Env:=⟨Tryd.prog,fnOf,conI3 ts,haltAt [77*1000+6]⟩
noncomputable def wkZ_d0:List SIt:=sekF Tryd.f77 4
noncomputable def wkZ_F (ws:Array Value) (h:Int) (n:Nat) (rs:Array Value) (i:Int):List SFr:=[frOf 77 Tryd.f77 [(1,i64 (.o h)),(2,ptr 0 (.l 0)),(5,nlS),(6,slS 1 n),(7,i64 (.o i))] wkZ_d0]
noncomputable def wkZ_M (ws:Array Value) (h:Int) (n:Nat) (rs:Array Value) (i:Int):SMem:=mkM 2 [(0,⟨.op ws,51,true⟩),(1,⟨.pop rs,3,true⟩)]
noncomputable def wkZ_n (ws:Array Value) (h:Int) (n:Nat) (rs:Array Value) (Q:Int→Prop) (fs:List SFr) (m:SMem):Prop:=(match frNth fs 0 with | some f0=>(match rdI f0 7 with | some i=>(match rdP f0 2 with | some p0=>(match rdSI f0 6 with | some p1=>Q i∧subOk 0 [(0,p0),(1,p1)] (wkZ_F ws h n rs i) (wkZ_M ws h n rs i) fs m | none=>False) | none=>False) | none=>False) | none=>False)
noncomputable def wkS_d0:List SIt:=sekF Tryd.f77 4
noncomputable def wkS_F (ws:Array Value) (h:Int) (n:Nat) (rs:Array Value) (i:Int) (k:Nat) (cs:Array Value):List SFr:=[frOf 77 Tryd.f77 [(1,i64 (.o h)),(2,ptr 0 (.l 0)),(5,slS 2 k),(6,slS 1 n),(7,i64 (.o i))] wkS_d0]
noncomputable def wkS_M (ws:Array Value) (h:Int) (n:Nat) (rs:Array Value) (i:Int) (k:Nat) (cs:Array Value):SMem:=mkM 3 [(0,⟨.op ws,51,true⟩),(1,⟨.pop rs,3,true⟩),(2,⟨.pop cs,3,true⟩)]
noncomputable def wkS_n (ws:Array Value) (h:Int) (n:Nat) (rs:Array Value) (Q:Int→Nat→Array Value→Prop) (fs:List SFr) (m:SMem):Prop:=(match frNth fs 0 with | some f0=>(match rdI f0 7 with | some i=>(match rdP f0 2 with | some p0=>(match rdSI f0 6 with | some p1=>(match rdSI f0 5 with | some p2=>(match rdSN f0 5 with | some k=>(match rdA m p2 with | some cs=>Q i k cs∧subOk 0 [(0,p0),(1,p1),(2,p2)] (wkS_F ws h n rs i k cs) (wkS_M ws h n rs i k cs) fs m | none=>False) | none=>False) | none=>False) | none=>False) | none=>False) | none=>False) | none=>False)
noncomputable def wkZS (ws:Array Value) (h:Int) (n:Nat) (rs:Array Value) (QZ:Int→Prop) (QS:Int→Nat→Array Value→Prop) (fs:List SFr) (m:SMem):Prop:=match fs with | f :: _=>(match f.tm.get 5 with | some (.s (.c (.f (.slice _ _ _ _))))=>wkS_n ws h n rs QS fs m | _=>wkZ_n ws h n rs QZ fs m) | []=>False
noncomputable def wk0_t (ts ws:Array Value) (h:Int):Tree:=run (EI3 ts) 1000 0 [callFr 77 Tryd.f77.ntmps [wtS ws,i64 (.o h)] (Tryd.f77.body.getD .skip)] e0M
noncomputable def wkz_t (ts ws:Array Value) (h:Int) (n:Nat) (rs:Array Value) (i:Int):Tree:=stepT (EI3 ts).go (run (EI3 ts) 1000) 0 (wkZ_F ws h n rs i) (wkZ_M ws h n rs i)
noncomputable def wks_t (ts ws:Array Value) (h:Int) (n:Nat) (rs:Array Value) (i:Int) (k:Nat) (cs:Array Value):Tree:=stepT (EI3 ts).go (run (EI3 ts) 1000) 0 (wkS_F ws h n rs i k cs) (wkS_M ws h n rs i k cs)
theorem wkZ_d0_ok (r:Nat→Option Nat):TodoOk r wkZ_d0 wkZ_d0:=TodoOk.it (by kernel_rfl)
theorem wkS_d0_ok (r:Nat→Option Nat):TodoOk r wkS_d0 wkS_d0:=TodoOk.it (by kernel_rfl)
theorem wkZ_good {A:SV→SMem→Prop} {ws:Array Value} {h:Int} {n:Nat} {rs:Array Value} {Q:Int→Prop} {fs:List SFr} {m:SMem} (H:∀ i,Q i→Good Tryd.prog A 0 (wkZ_F ws h n rs i) (wkZ_M ws h n rs i)) (hb:wkZ_n ws h n rs Q fs m):Good Tryd.prog A 0 fs m:=by
 unfold wkZ_n at hb
 iterate 4 (split at hb;rotate_left;exact hb.elim)
 exact Good.of_sub hb.2 (H _ hb.1)
theorem wkS_good {A:SV→SMem→Prop} {ws:Array Value} {h:Int} {n:Nat} {rs:Array Value} {Q:Int→Nat→Array Value→Prop} {fs:List SFr} {m:SMem} (H:∀ i k cs,Q i k cs→Good Tryd.prog A 0 (wkS_F ws h n rs i k cs) (wkS_M ws h n rs i k cs)) (hb:wkS_n ws h n rs Q fs m):Good Tryd.prog A 0 fs m:=by
 unfold wkS_n at hb
 iterate 7 (split at hb;rotate_left;exact hb.elim)
 exact Good.of_sub hb.2 (H _ _ _ hb.1)
set_option maxRecDepth 100000
theorem wou0 (ts ws:Array Value) (a h:Int) (o:Bool):(run (EI3 ts) 1000 0 [callFr 28 Tryd.f28.ntmps [wtS ws,i64 (.o a),i64 (.o h)] (Tryd.f28.body.getD .skip)] e0M).vc (retOk 0 [] (sB (.o o)) e0M) (fun _ _=>False) =
  ((Array.size ws=448∧True)∧(SW ts ws∧TbOk ts∧True)∧((gdF ts a==true)=true→(Array.size ws=448∧True)∧(SW ts ws∧TbOk ts∧True)∧((gdF ts h==true)=true→(((a==h)==false)=true→(Array.size ws=448∧True)∧(SW ts ws∧FIn ts∧(h=(0:Int)∨gdF ts h=true)∧True)∧o=abF ts a h∧True)∧(((a==h)==false)=false→o=true∧True))∧((gdF ts h==true)=false→o=false∧True))∧((gdF ts a==true)=false→o=false∧True)):=by kernel_rfl
theorem wk0E (ts ws:Array Value) (h:Int):(run (EI3z ts) 1000 0 [callFr 77 Tryd.f77.ntmps [wtS ws,i64 (.o h)] (Tryd.f77.body.getD .skip)] e0M).vc nilK (fun _ _=>False) =
  ((Array.size ws=448∧True)∧(SW ts ws∧TbOk ts∧True)∧(decide (List.length (lvT ts)=0)=true→True)∧(decide (List.length (lvT ts)=0)=false→(decide ((0:Int)<(↑(List.length (lvT ts)):Int))=true→False)∧(decide ((0:Int)<(↑(List.length (lvT ts)):Int))=false→True))):=by kernel_rfl
theorem wk0N (ts ws:Array Value) (h:Int) (n:Nat) (rs:Array Value) (Q:Int→Prop):(wk0_t ts ws h).vc (fun _ _=>False) (wkZ_n ws h n rs Q) =
  ((Array.size ws=448∧True)∧(SW ts ws∧TbOk ts∧True)∧(decide (List.length (lvT ts)=0)=true→False)∧(decide (List.length (lvT ts)=0)=false→Q (0:Int)∧cN∧TodoOk (ren 0 [(0,0),(1,1)]) wkZ_d0 wkZ_d0∧h=h∧(0:Int)=(0:Int)∧Value.slice none 0 0=Value.slice none 0 0∧n=List.length (lvT ts)∧51=51∧ws=ws∧3=3∧rs=i64s (lvT ts)∧True)):=by kernel_rfl
theorem wkzN (ts ws:Array Value) (h:Int) (n:Nat) (rs:Array Value) (i:Int) (QZ:Int→Prop) (QS:Int→Nat→Array Value→Prop):(wkz_t ts ws h n rs i).vc nilK (wkZS ws h n rs QZ QS) =
  ((decide (i<(↑n:Int))=true→(Array.size ws=448∧True)∧(SW ts ws∧TbOk ts∧True)∧((gdF ts h==true)=true→(Array.size ws=448∧True)∧((0≤i∧i<(↑n:Int))∧True)∧(IsInt .i64 rs (0+Int.toNat i*1)∧True)∧(SW ts ws∧TbOk ts∧True)∧((upF ts (intAt rs (0+Int.toNat i*1))==h)=true→((0≤i∧i<(↑n:Int))∧True)∧(IsInt .i64 rs (0+Int.toNat i*1)∧True)∧QS (ari .add .i64 i 1) (1:Nat) #[Value.int .i64 (intAt rs (0+Int.toNat i*1))]∧cN∧TodoOk (ren 0 [(0,0),(1,1),(2,3)]) wkZ_d0 wkZ_d0∧h=h∧ari .add .i64 i 1=ari .add .i64 i 1∧(1:Nat)=1∧n=n∧51=51∧ws=ws∧3=3∧rs=rs∧3=3∧#[Value.int .i64 (intAt rs (0+Int.toNat i*1))]=#[Value.int .i64 (intAt rs (0+Int.toNat i*1))]∧True)∧((upF ts (intAt rs (0+Int.toNat i*1))==h)=false→QZ (ari .add .i64 i 1)∧cN∧TodoOk (ren 0 [(0,0),(1,1)]) wkZ_d0 wkZ_d0∧h=h∧ari .add .i64 i 1=ari .add .i64 i 1∧Value.slice none 0 0=Value.slice none 0 0∧n=n∧51=51∧ws=ws∧3=3∧rs=rs∧True))∧((gdF ts h==true)=false→QZ (ari .add .i64 i 1)∧cN∧TodoOk (ren 0 [(0,0),(1,1)]) wkZ_d0 wkZ_d0∧h=h∧ari .add .i64 i 1=ari .add .i64 i 1∧Value.slice none 0 0=Value.slice none 0 0∧n=n∧51=51∧ws=ws∧3=3∧rs=rs∧True))∧(decide (i<(↑n:Int))=false→True)):=by kernel_rfl
theorem wkzF (ts ws:Array Value) (h:Int) (n:Nat) (rs:Array Value) (i:Int) (kF:Nat) (csF:Array Value) (QZ:Int→Prop) (QS:Int→Nat→Array Value→Prop):(wkz_t ts ws h n rs i).vc (freshA kF csF 3) (wkZS ws h n rs QZ QS) =
  ((decide (i<(↑n:Int))=true→(Array.size ws=448∧True)∧(SW ts ws∧TbOk ts∧True)∧((gdF ts h==true)=true→(Array.size ws=448∧True)∧((0≤i∧i<(↑n:Int))∧True)∧(IsInt .i64 rs (0+Int.toNat i*1)∧True)∧(SW ts ws∧TbOk ts∧True)∧((upF ts (intAt rs (0+Int.toNat i*1))==h)=true→((0≤i∧i<(↑n:Int))∧True)∧(IsInt .i64 rs (0+Int.toNat i*1)∧True)∧QS (ari .add .i64 i 1) (1:Nat) #[Value.int .i64 (intAt rs (0+Int.toNat i*1))]∧cN∧TodoOk (ren 0 [(0,0),(1,1),(2,3)]) wkZ_d0 wkZ_d0∧h=h∧ari .add .i64 i 1=ari .add .i64 i 1∧(1:Nat)=1∧n=n∧51=51∧ws=ws∧3=3∧rs=rs∧3=3∧#[Value.int .i64 (intAt rs (0+Int.toNat i*1))]=#[Value.int .i64 (intAt rs (0+Int.toNat i*1))]∧True)∧((upF ts (intAt rs (0+Int.toNat i*1))==h)=false→QZ (ari .add .i64 i 1)∧cN∧TodoOk (ren 0 [(0,0),(1,1)]) wkZ_d0 wkZ_d0∧h=h∧ari .add .i64 i 1=ari .add .i64 i 1∧Value.slice none 0 0=Value.slice none 0 0∧n=n∧51=51∧ws=ws∧3=3∧rs=rs∧True))∧((gdF ts h==true)=false→QZ (ari .add .i64 i 1)∧cN∧TodoOk (ren 0 [(0,0),(1,1)]) wkZ_d0 wkZ_d0∧h=h∧ari .add .i64 i 1=ari .add .i64 i 1∧Value.slice none 0 0=Value.slice none 0 0∧n=n∧51=51∧ws=ws∧3=3∧rs=rs∧True))∧(decide (i<(↑n:Int))=false→False)):=by kernel_rfl
theorem wksF (ts ws:Array Value) (h:Int) (n:Nat) (rs:Array Value) (i:Int) (k:Nat) (cs:Array Value) (kF:Nat) (csF:Array Value) (QS:Int→Nat→Array Value→Prop):(wks_t ts ws h n rs i k cs).vc (freshA kF csF 3) (wkS_n ws h n rs QS) =
  ((decide (i<(↑n:Int))=true→(Array.size ws=448∧True)∧(SW ts ws∧TbOk ts∧True)∧((gdF ts h==true)=true→(Array.size ws=448∧True)∧((0≤i∧i<(↑n:Int))∧True)∧(IsInt .i64 rs (0+Int.toNat i*1)∧True)∧(SW ts ws∧TbOk ts∧True)∧((upF ts (intAt rs (0+Int.toNat i*1))==h)=true→((0≤i∧i<(↑n:Int))∧True)∧(IsInt .i64 rs (0+Int.toNat i*1)∧True)∧(((k+1)*8≤140737488355328∧k+1≤140737488355328)∧k*1=Array.size cs∧True)∧QS (ari .add .i64 i 1) (k+1) (cs++#[Value.int .i64 (intAt rs (0+Int.toNat i*1))])∧cN∧TodoOk (ren 0 [(0,0),(1,1),(2,4)]) wkZ_d0 wkZ_d0∧h=h∧ari .add .i64 i 1=ari .add .i64 i 1∧k+1=k+1∧n=n∧51=51∧ws=ws∧3=3∧rs=rs∧3=3∧cs++#[Value.int .i64 (intAt rs (0+Int.toNat i*1))]=cs++#[Value.int .i64 (intAt rs (0+Int.toNat i*1))]∧True)∧((upF ts (intAt rs (0+Int.toNat i*1))==h)=false→QS (ari .add .i64 i 1) k cs∧cN∧TodoOk (ren 0 [(0,0),(1,1),(2,2)]) wkZ_d0 wkZ_d0∧h=h∧ari .add .i64 i 1=ari .add .i64 i 1∧k=k∧n=n∧51=51∧ws=ws∧3=3∧rs=rs∧3=3∧cs=cs∧True))∧((gdF ts h==true)=false→QS (ari .add .i64 i 1) k cs∧cN∧TodoOk (ren 0 [(0,0),(1,1),(2,2)]) wkZ_d0 wkZ_d0∧h=h∧ari .add .i64 i 1=ari .add .i64 i 1∧k=k∧n=n∧51=51∧ws=ws∧3=3∧rs=rs∧3=3∧cs=cs∧True))∧(decide (i<(↑n:Int))=false→kF=k∧3=3∧csF=cs∧True)):=by kernel_rfl
set_option linter.unusedVariables false
theorem conI3_ok (ts:Array Value):∀ g l m t,conI3 ts g l m=some t→Con E0 g l m t:=by
 intro g l m t h
 unfold conI3 at h
 split at h
 ·rename_i ws;cases h
  exact rall_con m
 ·rename_i ws a x;cases h
  exact Con.n2 (rabove_con a.den x.den m)
 ·rename_i ws x;cases h
  exact Con.n1 (rdepth_con x.den m)
 ·exact conI2_ok ts _ _ _ _ h
theorem EI3_ok (ts:Array Value):EnvOk (EI3 ts):=EnvOk.with E0_ok _ _ (conI3_ok ts)
theorem EI3z_ok (ts:Array Value):EnvOk (EI3z ts):=EnvOk.with E0_ok _ _ (conI3_ok ts)
section
variable {ts ws:Array Value} {h:Int}
theorem out_ab (hf:FIn ts) (a h:Int):outF ts a h=(gdF ts a&&(gdF ts h&&((a==h)||abF ts a h))):=by
 have hb:=hf.ok
 unfold outF abF
 cases hg:gdF ts h with
 | false=>simp
 | true =>
  have hx:=(lv_mem hb).2 hg
  rw [ch_cons hf.fo hx]
  by_cases m:a∈h :: chL (upF ts) (upF ts h)
  ·have ha:gdF ts a=true:=(lv_mem hb).1 (ch_sub hf.fo h (.inr hx) a (by rw [ch_cons hf.fo hx];exact m))
   rw [decide_eq_true m,ha]
   rcases List.mem_cons.1 m with e | e
   ·rw [beq_iff_eq.2 e];rfl
   ·rw [decide_eq_true e,Bool.or_true];rfl
  ·rw [decide_eq_false m]
   rw [List.mem_cons,not_or] at m
   rw [beq_eq_false_iff_ne.2 m.1,decide_eq_false m.2]
   simp
theorem rout_con (a h:Int) (m:SMem):Con E0 28 [wtS ws,i64 (.o a),i64 (.o h)] m (needs [SW ts ws,FIn ts] (.ret (sB (.o (outF ts a h))) m)):=by
 refine Con.pure E0_ok (by kernel_rfl:E0.fn 28=some Tryd.f28) (by kernel_rfl:Tryd.f28.body=some (Tryd.f28.body.getD .skip)) (by kernel_rfl) (by kernel_rfl) fun hq=>?_
 have w:SW ts ws:=hq _ (by simp)
 have hf:FIn ts:=hq _ (by simp)
 have hb:=hf.ok
 have hz:=w.sz
 refine (Good.ret [] (run_vc (EI3_ok ts) 1000 (wou0 ts ws a h (outF ts a h)) ?_ (fun s m h=>h) fun _ _ h=>h.elim)).mono fun _ _ h=>h.1
 rw [out_ab hf]
 cases ga:gdF ts a <;> cases gh:gdF ts h <;> cases e:(a==h)
 all_goals simp only [hz,w,hb,hf,ga,gh,e,Bool.true_and,Bool.false_and,Bool.and_true,Bool.and_false,Bool.true_or,Bool.false_or,or_true,q8,q6]
theorem wkZS_good {n:Nat} {rs:Array Value} {A:SV→SMem→Prop} {QZ:Int→Prop} {QS:Int→Nat→Array Value→Prop} {fs:List SFr} {m:SMem} (hz:∀ i,QZ i→Good Tryd.prog A 0 (wkZ_F ws h n rs i) (wkZ_M ws h n rs i)) (hs:∀ i k cs,QS i k cs→Good Tryd.prog A 0 (wkS_F ws h n rs i k cs) (wkS_M ws h n rs i k cs)) (hb:wkZS ws h n rs QZ QS fs m):Good Tryd.prog A 0 fs m:=by
 unfold wkZS at hb
 split at hb
 ·split at hb
  ·exact wkS_good hs hb
  ·exact wkZ_good hz hb
 ·exact hb.elim
theorem wkS_ok (w:SW ts ws) (hb:TbOk ts) (hg:gdF ts h=true):∀ (k i:Nat),i+k=(lvT ts).length→Good Tryd.prog (freshA (kdP ts h (lvT ts).length).length (i64s (kdP ts h (lvT ts).length)) 3) 0 (wkS_F ws h (lvT ts).length (i64s (lvT ts)) (i:Int) (kdP ts h i).length (i64s (kdP ts h i))) (wkS_M ws h (lvT ts).length (i64s (lvT ts)) (i:Int) (kdP ts h i).length (i64s (kdP ts h i))):=by
 have hz:=w.sz
 have hlen:=lv_len ts
 intro k
 induction k with
 | zero =>
  intro i hi
  obtain rfl:i=(lvT ts).length:=by omega
  refine past_vc (EI3_ok ts) 1000 (wksF ts ws h _ _ _ _ _ (kdP ts h (lvT ts).length).length (i64s (kdP ts h (lvT ts).length)) (fun _ _ _=>False)) ?_ (fun _ _ h=>h) (fun fs m hb=>wkS_good (fun _ _ _ h=>h.elim) hb)
  have d:decide (((lvT ts).length:Int)<((lvT ts).length:Int))=false:=decide_eq_false (by omega)
  simp only [d,q6]
 | succ k ih =>
  intro i hi
  refine past_vc (EI3_ok ts) 1000 (wksF ts ws h _ _ (i:Int) _ _ (kdP ts h (lvT ts).length).length (i64s (kdP ts h (lvT ts).length)) (fun i' k' c'=>i'=((i+1:Nat):Int)∧k'=(kdP ts h (i+1)).length∧c'=i64s (kdP ts h (i+1)))) ?_ (fun _ _ h=>h) (fun fs m hb=>wkS_good (fun i' k' c' ⟨e1,e2,e3⟩=>by rw [e1,e2,e3];exact ih (i+1) (by omega)) hb)
  have hi':i<(lvT ts).length:=by omega
  have d:decide ((i:Int)<((lvT ts).length:Int))=true:=decide_eq_true (by omega)
  have ei:ari .add .i64 (i:Int) 1=((i+1:Nat):Int):=by rw [ari_add,i64_in' (by omega) (by omega)];omega
  have g1:IsInt .i64 (i64s (lvT ts)) i:=isI_of (i64s_at hi')
  have g2:intAt (i64s (lvT ts)) i=(lvT ts).getD i 0:=intAt_of (i64s_at hi')
  have hx0:0≤(i:Int):=by omega
  have hx1:(i:Int)<((lvT ts).length:Int):=by omega
  have hl:(kdP ts h i).length≤i:=kdP_le i
  have hl1:(((kdP ts h i).length+1)*8≤140737488355328∧(kdP ts h i).length+1≤140737488355328):=⟨by omega,by omega⟩
  rw [kdP_succ hi']
  cases c:(upF ts ((lvT ts).getD i 0)==h)
  all_goals
   simp only [d,ei,g1,g2,hx0,hx1,hz,w,hb,hg,hl1,c,beqT,beqF,i64s_size,i64s_app,List.length_append,List.length_cons,List.length_nil,if_true,if_false,decide_true,wkZ_d0_ok,wkS_d0_ok,q7,q6]
theorem wkZ_s (w:SW ts ws) (hb:TbOk ts) (hg:gdF ts h=true) (hne:kdP ts h (lvT ts).length≠[]):∀ (k i:Nat),i+k=(lvT ts).length→kdP ts h i=[]→Good Tryd.prog (freshA (kdP ts h (lvT ts).length).length (i64s (kdP ts h (lvT ts).length)) 3) 0 (wkZ_F ws h (lvT ts).length (i64s (lvT ts)) (i:Int)) (wkZ_M ws h (lvT ts).length (i64s (lvT ts)) (i:Int)):=by
 have hz:=w.sz
 have hlen:=lv_len ts
 intro k
 induction k with
 | zero =>
  intro i hi he
  obtain rfl:i=(lvT ts).length:=by omega
  exact absurd he hne
 | succ k ih =>
  intro i hi he
  refine past_vc (EI3_ok ts) 1000 (wkzF ts ws h _ _ (i:Int) (kdP ts h (lvT ts).length).length (i64s (kdP ts h (lvT ts).length)) (fun i'=>i'=((i+1:Nat):Int)∧kdP ts h (i+1)=[]) (fun i' k' c'=>i'=((i+1:Nat):Int)∧k'=(kdP ts h (i+1)).length∧c'=i64s (kdP ts h (i+1)))) ?_ (fun _ _ h=>h) (fun fs m hb'=>wkZS_good (fun i' ⟨e1,e2⟩=>by rw [e1];exact ih (i+1) (by omega) e2) (fun i' k' c' ⟨e1,e2,e3⟩=>by rw [e1,e2,e3];exact wkS_ok w hb hg k (i+1) (by omega)) hb')
  have hi':i<(lvT ts).length:=by omega
  have d:decide ((i:Int)<((lvT ts).length:Int))=true:=decide_eq_true (by omega)
  have ei:ari .add .i64 (i:Int) 1=((i+1:Nat):Int):=by rw [ari_add,i64_in' (by omega) (by omega)];omega
  have g1:IsInt .i64 (i64s (lvT ts)) i:=isI_of (i64s_at hi')
  have g2:intAt (i64s (lvT ts)) i=(lvT ts).getD i 0:=intAt_of (i64s_at hi')
  have hx0:0≤(i:Int):=by omega
  have hx1:(i:Int)<((lvT ts).length:Int):=by omega
  rw [kdP_succ hi',he]
  cases c:(upF ts ((lvT ts).getD i 0)==h)
  all_goals
   simp only [d,ei,g1,g2,hx0,hx1,hz,w,hb,hg,c,beqT,beqF,i64s_one,List.nil_append,List.length_cons,List.length_nil,if_true,if_false,decide_true,wkZ_d0_ok,wkS_d0_ok,q7,q6]
theorem wkZ_nn (w:SW ts ws) (hb:TbOk ts) (hne:kdF ts h=[]):∀ (k i:Nat),i+k=(lvT ts).length→Good Tryd.prog nilK 0 (wkZ_F ws h (lvT ts).length (i64s (lvT ts)) (i:Int)) (wkZ_M ws h (lvT ts).length (i64s (lvT ts)) (i:Int)):=by
 have hz:=w.sz
 have hlen:=lv_len ts
 intro k
 induction k with
 | zero =>
  intro i hi
  obtain rfl:i=(lvT ts).length:=by omega
  refine past_vc (EI3_ok ts) 1000 (wkzN ts ws h _ _ _ (fun _=>False) (fun _ _ _=>False)) ?_ (fun _ _ h=>h) (fun fs m hb=>wkZS_good (fun _ h=>h.elim) (fun _ _ _ h=>h.elim) hb)
  have d:decide (((lvT ts).length:Int)<((lvT ts).length:Int))=false:=decide_eq_false (by omega)
  simp only [d,q6]
 | succ k ih =>
  intro i hi
  refine past_vc (EI3_ok ts) 1000 (wkzN ts ws h _ _ (i:Int) (fun i'=>i'=((i+1:Nat):Int)) (fun i' k' c'=>False)) ?_ (fun _ _ h=>h) (fun fs m hb'=>wkZS_good (fun i' e1=>by rw [e1];exact ih (i+1) (by omega)) (fun _ _ _ h=>h.elim) hb')
  have hi':i<(lvT ts).length:=by omega
  have d:decide ((i:Int)<((lvT ts).length:Int))=true:=decide_eq_true (by omega)
  have ei:ari .add .i64 (i:Int) 1=((i+1:Nat):Int):=by rw [ari_add,i64_in' (by omega) (by omega)];omega
  have g1:IsInt .i64 (i64s (lvT ts)) i:=isI_of (i64s_at hi')
  have g2:intAt (i64s (lvT ts)) i=(lvT ts).getD i 0:=intAt_of (i64s_at hi')
  have hx0:0≤(i:Int):=by omega
  have hx1:(i:Int)<((lvT ts).length:Int):=by omega
  cases hg:gdF ts h with
  | false =>
   simp only [d,ei,g1,g2,hx0,hx1,hz,w,hb,hg,beqT,beqF,decide_true,wkZ_d0_ok,wkS_d0_ok,q7,q6]
  | true =>
   have ha:=kdP_all hg
   have he:=kdP_pre (h:=h) (i:=i+1) (Nat.le_refl _) (by omega) (ha.trans hne)
   have c:(upF ts ((lvT ts).getD i 0)==h)=false:=by
    rw [kdP_succ hi'] at he
    split at he
    ·simp at he
    ·rename_i k;simpa using k
   simp only [d,ei,g1,g2,hx0,hx1,hz,w,hb,hg,c,beqT,beqF,decide_true,wkZ_d0_ok,wkS_d0_ok,q7,q6]
theorem rkids_con (h:Int) (m:SMem):Con E0 77 [wtS ws,i64 (.o h)] m (.need [SW ts ws,TbOk ts] (rowW (kdF ts h) m)):=by
 refine Con.asked fun hq=>?_
 have w:SW ts ws:=hq _ (by simp)
 have hb:TbOk ts:=hq _ (by simp)
 have hs:=w.sz
 refine Con.two (fun hz=>?_) (fun hz=>?_)
 ·have he:kdF ts h=[]:=List.eq_nil_of_length_eq_zero (of_decide_eq_true hz)
  refine (show Con E0 77 [wtS ws,i64 (.o h)] m (needs [] _) from Con.pure E0_ok (by kernel_rfl:E0.fn 77=some Tryd.f77) (by kernel_rfl:Tryd.f77.body=some (Tryd.f77.body.getD .skip)) (by kernel_rfl) (by kernel_rfl) fun hq=>?_)
  refine Good.mono (A:=nilK) ?_ ?_
  ·cases c:decide ((lvT ts).length=0) with
   | true =>
    refine run_vc (EI3z_ok ts) 1000 (wk0E ts ws h) ?_ (fun s m h=>h) fun fs m hm=>hm.elim
    simp only [c,hs,w,hb,q6]
   | false =>
    refine run_vc (EI3_ok ts) 1000 (wk0N ts ws h (lvT ts).length (i64s (lvT ts)) (fun i=>i=((0:Nat):Int))) ?_ (fun s m h=>h.elim) fun fs m hm=>wkZ_good (fun i e=>by rw [e];exact wkZ_nn w hb he (lvT ts).length 0 (by omega)) hm
    simp only [c,hs,w,hb,wkZ_d0_ok,q6]
    rfl
  ·intro s m' hs
   unfold nilK at hs
   split at hs
   ·rfl
   ·exact hs.elim
 ·have hne:kdF ts h≠[]:=fun e=>by
   have:=of_decide_eq_false hz
   rw [e] at this
   exact this rfl
  have hg:gdF ts h=true:=by
   cases c:gdF ts h with
   | true=>rfl
   | false=>exact absurd (by unfold kdF;rw [c];rfl) hne
  have ha:=kdP_all hg
  have hl:(lvT ts).length≠0:=by
   intro e
   have e0:=List.eq_nil_of_length_eq_zero e
   have hne2:=hne
   rw [← ha] at hne2
   apply hne2
   unfold kdP
   rw [e0]
   rfl
  have c:decide ((lvT ts).length=0)=false:=decide_eq_false hl
  refine (show Con E0 77 [wtS ws,i64 (.o h)] m (needs [] _) from Con.fresh E0_ok (by kernel_rfl:E0.fn 77=some Tryd.f77) (by kernel_rfl:Tryd.f77.body=some (Tryd.f77.body.getD .skip)) (by kernel_rfl) rfl fun _=>?_)
  refine Good.retX ((run_vc (EI3_ok ts) 1000 (wk0N ts ws h (lvT ts).length (i64s (lvT ts)) (fun i=>i=((0:Nat):Int))) ?_ (fun s m h=>h.elim) fun fs m hm=>wkZ_good (A:=freshA (kdF ts h).length (i64s (kdF ts h)) 3) (fun i e=>by rw [e,← ha];exact wkZ_s w hb hg (by rw [ha];exact hne) (lvT ts).length 0 (by omega) rfl) hm).mono fun s m h=>?_)
  ·simp only [c,hs,w,hb,wkZ_d0_ok,q6]
   rfl
  ·unfold freshA at h
   split at h
   ·exact ⟨_,h⟩
   ·exact h.elim
end
section
variable {ts ws:Array Value}
theorem fr_eq {vs bs:Array Value} (h:∀ i,i<32→knW vs i=kindAt bs i):∀ k i,i+k=32→frW vs k i=freeFrom bs k i
 | 0,_,_=>rfl
 | k+1,i,e=>by
  show (if knW vs i=0 then some i else frW vs k (i+1))=_
  rw [freeFrom_succ,h i (by omega),fr_eq h k (i+1) (by omega)]
theorem SW.fr (w:SW ts ws):frW (ws.extract 0 64) 32 0=freeS (bkB ts):=fr_eq (fun i hi=>w.kn hi) 32 0 rfl
theorem SW.iss0 (w:SW ts ws) (e:freeS (bkB ts)=none):isW (ws.extract 0 64)=ws.extract 0 64∧iiW (ws.extract 0 64)=0:=by
 unfold isW iiW
 rw [w.fr,e]
 exact ⟨rfl,rfl⟩
theorem SW.iss1 (w:SW ts ws) (hb:TbOk ts) {i:Nat} (hi:i<32) (e:freeS (bkB ts)=some i):isW (ws.extract 0 64)=(ws.extract 0 64).setIfInBounds (32+i) (.int .i64 1)∧iiW (ws.extract 0 64)=nameI i (ageAt (bkB ts) i)∧WB (isW (ws.extract 0 64))∧slW (isW (ws.extract 0 64)) (iiW (ws.extract 0 64))=(i:Int):=by
 have wb:=w.wb hb
 have e1:isW (ws.extract 0 64)=(ws.extract 0 64).setIfInBounds (32+i) (.int .i64 1):=by unfold isW;rw [w.fr,e];rfl
 have e2:iiW (ws.extract 0 64)=nameI i (ageAt (bkB ts) i):=by
  unfold iiW
  rw [w.fr,e]
  show nameI i (gnW (ws.extract 0 64) i)=_
  rw [w.gn hi]
 obtain ⟨s1,s2,s3⟩:=set_kn (x:=1) wb hi ⟨by decide,by decide⟩
 refine ⟨e1,e2,by rw [e1];exact s1,?_⟩
 rw [e1,e2]
 refine slFrom_of (k:=i) (fun j hj c=>?_) ⟨by rw [s3 i hi,if_pos rfl],by rw [s2 i hi,w.gn hi]⟩ 32 0 rfl (Nat.zero_le _) hi
 rw [s2 j hj,w.gn hj] at c
 exact (name_inj hj hi c.2).1
def nwW (ts ws:Array Value) (u q:Int):Array Value:=if newE ts u q=0 then putAt (putAt ws 0 (isW (ws.extract 0 64)).toList) (64+sl (issueI (bkB ts))*12) [.int .i64 u,.int .i64 q,.slice none 0 0,.int .i64 0,.int .i64 0,.int .i64 0,.int .i64 0,.int .i64 0,.int .i64 0,.int .i64 0,.int .i64 0,.int .i64 0] else ws
theorem rnew_con (u q:Int) (m:SMem):Con E0 65 [wtS ws,i64 (.o u),i64 (.o q)] m (needs [SW ts ws,TbOk ts] (.ret (.tup [.agg (.op (nwW ts ws u q)),.c (.f (.int .i64 (.o (newI ts u q)))),.c (.f (.int .i64 (.o (newE ts u q))))]) m)):=by
 refine Con.pure E0_ok (by kernel_rfl:E0.fn 65=some Tryd.f65) (by kernel_rfl:Tryd.f65.body=some (Tryd.f65.body.getD .skip)) (by kernel_rfl) (by kernel_rfl) fun hq=>?_
 have w:SW ts ws:=hq _ (by simp)
 have hb:TbOk ts:=hq _ (by simp)
 refine (Good.ret [] (run_vc EI1_ok 1000 (nw0 ws u q (nwW ts ws u q) (newI ts u q) (newE ts u q)) ?_ (fun s m h=>h) fun _ _ h=>h.elim)).mono fun _ _ h=>h.1
 unfold nw0_0
 have hz:=w.sz
 have h64:(64:Nat)≤448:=by decide
 have wb:=w.wb hb
 have es:=w.slot hb u
 have key:∀ e,newE ts u q=e→e≠0→nwW ts ws u q=ws∧newI ts u q=0:=fun e h1 h2=>by
  constructor
  ·unfold nwW;rw [if_neg (by rw [h1];exact h2)]
  ·unfold newI;rw [if_neg (by rw [h1];exact h2)]
 by_cases c0:u≠0∧gdF ts u=false
 ·have d0:(u != 0)=true:=bne_iff_ne.2 c0.1
  have d1:decide (slW (ws.extract 0 64) u≥0)=false:=decide_eq_false (by rw [es,if_neg (by rw [c0.2];decide)];omega)
  have e:newE ts u q=4:=by unfold newE;rw [if_pos c0]
  obtain ⟨k1,k2⟩:=key 4 e (by decide)
  simp only [d0,d1,e,k1,k2,hz,h64,wb,q8,q6]
 ·have fin:(u != 0)=false∨((u != 0)=true∧decide (slW (ws.extract 0 64) u≥0)=true):=by
   by_cases z:u=0
   ·left;rw [z];rfl
   ·right
    have g:gdF ts u=true:=by
     cases g:gdF ts u with
     | true=>rfl
     | false=>exact absurd ⟨z,g⟩ c0
    exact ⟨bne_iff_ne.2 z,decide_eq_true (by rw [es,if_pos g];omega)⟩
  by_cases c1:0≤q∧q≤64
  ·have d2:decide (q<0)=false:=decide_eq_false (by omega)
   have d3:decide (q>64)=false:=decide_eq_false (by omega)
   rcases issue_cases (bs:=bkB ts) with ⟨f1,_,f3,f4⟩ | ⟨i,h1,h2,g1,g2,g3,g4⟩
   ·obtain ⟨n1,n2⟩:=w.iss0 f1
    have e:newE ts u q=7:=by unfold newE;rw [if_neg c0,if_pos c1,f4];rfl
    obtain ⟨k1,k2⟩:=key 7 e (by decide)
    have d4:(iiW (ws.extract 0 64)==0)=true:=by rw [n2];rfl
    have sz:=wb.sz
    rcases fin with d0 | ⟨d0,d1⟩
    ·simp only [d0,d2,d3,d4,n1,e,k1,k2,sz,hz,h64,wb,q8,q6]
    ·simp only [d0,d1,d2,d3,d4,n1,e,k1,k2,sz,hz,h64,wb,q8,q6]
   ·obtain ⟨n1,n2,n3,n4⟩:=w.iss1 hb h1 g4
    have e:newE ts u q=0:=by unfold newE;rw [if_neg c0,if_pos c1,g3];rfl
    have hr:=hb.bk.ra i h1
    have esl:sl (issueI (bkB ts))=i:=by rw [g2];exact slotI_name h1 hr
    have d4:(iiW (ws.extract 0 64)==0)=false:=beq_eq_false_iff_ne.2 (by rw [n2];unfold nameI;omega)
    have sz:=n3.sz
    have k1:nwW ts ws u q=putAt (putAt ws 0 (isW (ws.extract 0 64)).toList) (64+i*12) [.int .i64 u,.int .i64 q,.slice none 0 0,.int .i64 0,.int .i64 0,.int .i64 0,.int .i64 0,.int .i64 0,.int .i64 0,.int .i64 0,.int .i64 0,.int .i64 0]:=by unfold nwW;rw [if_pos e,esl]
    have k2:newI ts u q=iiW (ws.extract 0 64):=by unfold newI;rw [if_pos e,n2,g2]
    have y0:(0:Int)≤(i:Int):=by omega
    have y1:(i:Int)<32:=by omega
    have z1:(putAt ws 0 (isW (ws.extract 0 64)).toList).size=448:=by rw [putAt_size (by rw [Array.length_toList,sz,hz];decide)];exact hz
    have z2:64+i*12+12≤448:=by omega
    have z3:(putAt (putAt ws 0 (isW (ws.extract 0 64)).toList) (64+i*12) [.int .i64 u,.int .i64 q,.slice none 0 0,.int .i64 0,.int .i64 0,.int .i64 0,.int .i64 0,.int .i64 0,.int .i64 0,.int .i64 0,.int .i64 0,.int .i64 0]).size=448:=by
     rw [putAt_size (by rw [z1];exact z2)];exact z1
    have zl:∀ a0 a1 a2 a3 a4 a5 a6 a7 a8 a9 b0 b1:Value,List.length [a0,a1,a2,a3,a4,a5,a6,a7,a8,a9,b0,b1]=12:=fun _ _ _ _ _ _ _ _ _ _ _ _=>rfl
    have z4:0+64≤448:=by decide
    rcases fin with d0 | ⟨d0,d1⟩
    ·simp only [d0,d2,d3,d4,n3,n4,e,k1,k2,sz,hz,h64,wb,y0,y1,z1,z2,z3,z4,zl,Int.toNat_natCast,decide_true,q8,q6]
    ·simp only [d0,d1,d2,d3,d4,n3,n4,e,k1,k2,sz,hz,h64,wb,y0,y1,z1,z2,z3,z4,zl,Int.toNat_natCast,decide_true,q8,q6]
  ·have e:newE ts u q=2:=by unfold newE;rw [if_neg c0,if_neg c1]
   obtain ⟨k1,k2⟩:=key 2 e (by decide)
   by_cases c2:q<0
   ·have d2:decide (q<0)=true:=decide_eq_true c2
    rcases fin with d0 | ⟨d0,d1⟩
    ·simp only [d0,d2,e,k1,k2,hz,h64,wb,q8,q6]
    ·simp only [d0,d1,d2,e,k1,k2,hz,h64,wb,q8,q6]
   ·have d2:decide (q<0)=false:=decide_eq_false c2
    have d3:decide (q>64)=true:=decide_eq_true (by omega)
    rcases fin with d0 | ⟨d0,d1⟩
    ·simp only [d0,d2,d3,e,k1,k2,hz,h64,wb,q8,q6]
    ·simp only [d0,d1,d2,d3,e,k1,k2,hz,h64,wb,q8,q6]
end
section
variable {ts ws:Array Value}
theorem rwA_eq {u q u' q':Int} {c d:Nat→Int} (h1:u=u') (h2:q=q') (h:∀ k,k<8→c k=d k):rwA u q c=rwA u' q' d:=by
 unfold rwA
 rw [h1,h2,h 0 (by decide),h 1 (by decide),h 2 (by decide),h 3 (by decide),h 4 (by decide),h 5 (by decide),h 6 (by decide),h 7 (by decide)]
theorem ne_0 {u q:Int} (e:newE ts u q=0):(u=0∨gdF ts u=true)∧(0≤q∧q≤64)∧issueOk (bkB ts)=true:=by
 unfold newE at e
 split at e
 ·exact absurd e (by decide)
 rename_i n2
 split at e
 rotate_left
 ·exact absurd e (by decide)
 rename_i hq
 split at e
 rotate_left
 ·exact absurd e (by decide)
 rename_i ho
 refine ⟨?_,hq,ho⟩
 by_cases c:u=0
 ·exact .inl c
 ·right
  cases d:gdF ts u with
  | true=>rfl
  | false=>exact absurd ⟨c,d⟩ n2
theorem nw_up (hv:FV ts) {u q:Int} (hu:inH u) (e:newE ts u q=0):upF (nwT ts u q) (issueI (bkB ts))=u∧∀ x,gdF ts x=true→upF (nwT ts u q) x=upF ts x:=by
 obtain ⟨hu2,hq,ho⟩:=ne_0 e
 have hb:=hv.f.ok
 obtain ⟨r1,r2,r3,r4,r5⟩:=nw_f hb ho (u:=u) (q:=q) hu hq
 obtain ⟨i1,i2,_⟩:=iss_new hb ho
 constructor
 ·have g:gdF (nwT ts u q) (issueI (bkB ts))=true:=by rw [r3,decide_eq_true rfl,Bool.or_true]
  unfold upF
  rw [if_pos g,r4.1]
  rcases hu2 with c | c
  ·rw [c];split <;> rfl
  ·rw [if_pos (by rw [r3,c];rfl)]
 ·intro x g
  have g':gdF (nwT ts u q) x=true:=by rw [r3,g];rfl
  have hne:upR ts x≠issueI (bkB ts):=fun k=>by
   rcases hv.o x g with c | c
   ·exact i2 (k.symm.trans c)
   ·rw [k] at c
    exact (used_new hb.bk ho).2 c
  unfold upF
  rw [if_pos g,if_pos g',(r5 x g).1,r3,decide_eq_false hne,Bool.or_false]
theorem SW.new (w:SW ts ws) (hv:FV ts) {u q:Int} (hu:inH u) (e:newE ts u q=0):SW (nwT ts u q) (nwW ts ws u q):=by
 obtain ⟨hu2,hq,ho⟩:=ne_0 e
 have hb:=hv.f.ok
 obtain ⟨p1,p2⟩:=nw_up hv hu e
 obtain ⟨r1,r2,r3,r4,r5⟩:=nw_f hb ho (u:=u) (q:=q) hu hq
 rcases issue_cases (bs:=bkB ts) with ⟨_,_,_,f4⟩ | ⟨i,h1,h2,g1,g2,g3,g4⟩
 ·rw [ho] at f4;cases f4
 obtain ⟨n1,n2,n3,n4⟩:=w.iss1 hb h1 g4
 have hr:=hb.bk.ra i h1
 have esl:sl (issueI (bkB ts))=i:=by rw [g2];exact slotI_name h1 hr
 have hz:=w.sz
 have sz:=n3.sz
 have hbs:=hb.bk.sz
 have z0:0+(isW (ws.extract 0 64)).toList.length≤ws.size:=by rw [Array.length_toList,sz,hz];decide
 have z1:(putAt ws 0 (isW (ws.extract 0 64)).toList).size=448:=by rw [putAt_size z0];exact hz
 have ew:nwW ts ws u q=putAt (putAt ws 0 (isW (ws.extract 0 64)).toList) (64+i*12) (rwA u q fun _=>0).toList:=by unfold nwW;rw [if_pos e,esl];rfl
 have zl:(rwA u q fun _=>0).toList.length=12:=rfl
 have z2:64+i*12+(rwA u q fun _=>0).toList.length≤(putAt ws 0 (isW (ws.extract 0 64)).toList).size:=by rw [zl,z1];omega
 have ll:(isW (ws.extract 0 64)).toList.length=64:=by rw [Array.length_toList,sz]
 have low:∀ j,j<64→(nwW ts ws u q)[j]?=if j=32+i then some (.int .i64 1) else ws[j]?:=fun j hj=>by
  rw [ew,putAt_out z2 (.inl (by omega)),putAt_in z0 (Nat.zero_le _) (by omega),Nat.sub_zero,Array.getElem?_toList,n1,Array.getElem?_setIfInBounds]
  by_cases c:32+i=j
  ·rw [if_pos c,if_pos c.symm,if_pos (by rw [ext_size (by omega)];omega)]
  ·rw [if_neg c,if_neg (fun k=>c k.symm),w.bk hj]
 have mid:∀ j k,j<32→k<12→(nwW ts ws u q)[64+j*12+k]?=if j=i then (rwA u q fun _=>0)[k]? else ws[64+j*12+k]?:=fun j k hj hk=>by
  rw [ew]
  by_cases c:j=i
  ·rw [if_pos c,putAt_in z2 (by omega) (by rw [zl];omega),Array.getElem?_toList,c]
   congr 1
   omega
  ·rw [if_neg c,putAt_out z2 (by rw [zl];omega),putAt_out z0 (by rw [ll];omega)]
 have ea:∀ j,ageAt (bkB (nwT ts u q)) j=ageAt (bkB ts) j:=fun j=>by rw [r2,g1,age_set]
 have ek:∀ j,kindAt (bkB (nwT ts u q)) j=if j=i then 1 else kindAt (bkB ts) j:=fun j=>by rw [r2,g1,kind_set hbs h1]
 have en:∀ j,nmF (nwT ts u q) j=nmF ts j:=fun j=>by unfold nmF;rw [ea]
 refine ⟨by rw [ew,putAt_size z2];exact z1,fun j hj=>?_,fun j hj=>?_,fun j hj hk c hc=>?_,fun j hj hk c hc=>?_⟩
 ·rw [low j (by omega),if_neg (by omega),ea]
  exact w.g j hj
 ·rw [low (32+j) (by omega),ek]
  by_cases c:j=i
  ·rw [if_pos (by omega),if_pos c]
  ·rw [if_neg (by omega),if_neg c]
   exact w.s j hj
 ·rw [mid j c hj hc,en]
  by_cases d:j=i
  ·rw [if_pos d]
   have em:nmF ts j=issueI (bkB ts):=by rw [g2,d];rfl
   have er:rwF (nwT ts u q) (issueI (bkB ts))=rwA u q fun _=>0:=rwA_eq p1 r4.2.1 fun k hk=>r4.2.2 k hk
   rw [em,er]
  ·rw [if_neg d]
   rw [ek,if_neg d] at hk
   have gx:gdF ts (nmF ts j)=true:=(goodB_iff hb.bk).2 ⟨j,hj,hk,rfl⟩
   have er:rwF (nwT ts u q) (nmF ts j)=rwF ts (nmF ts j):=rwA_eq (p2 _ gx) (r5 _ gx).2.1 fun k hk=>(r5 _ gx).2.2 k hk
   rw [er]
   exact w.r j hj hk c hc
 ·rw [ek] at hk
  by_cases d:j=i
  ·rw [if_pos d] at hk
   exact absurd rfl hk
  ·rw [if_neg d] at hk
   rw [mid j c hj hc,if_neg d]
   exact w.z j hj hk c hc
end
set_option linter.unusedVariables false
noncomputable def conI4 (ts:Array Value) (g:FuncId) (l:List SV) (m:SMem):Option Tree:=match g,l with
 | 65,[.s (.agg (.op ws)),.s (.c (.f (.int .i64 u))),.s (.c (.f (.int .i64 q)))]=>some (.need [SW ts ws,TbOk ts] (.ret (.tup [.agg (.op (nwW ts ws u.den q.den)),.c (.f (.int .i64 (.o (newI ts u.den q.den)))),.c (.f (.int .i64 (.o (newE ts u.den q.den))))]) m))
 | g,l=>conI3 ts g l m
noncomputable def EI4 (ts:Array Value):Env:=⟨Tryd.prog,fnOf,conI4 ts,haltAt []⟩
set_option maxRecDepth 100000
noncomputable def rn0_0 (ts:Array Value) (ws:Array Value) (u:Int) (q:Int) (o:Array Value) (h:Int) (e:Int):Prop:=(decide (q≥0)==true)=true→((decide (q≤64)==true)=true→(Array.size ws=448∧True)∧(SW ts ws∧FIn ts∧True)∧(decide ((↑(depF ts u):Int)>5)=true→(Array.size ws=448∧True)∧(Array.size ws=448∧Array.size ws=448∧True)∧(Array.size ws=448∧True)∧o=ws∧h=0∧e=8∧True)∧(decide ((↑(depF ts u):Int)>5)=false→(Array.size ws=448∧True)∧(SW ts ws∧TbOk ts∧True)∧(Array.size (nwW ts ws u q)=448∧Array.size (nwW ts ws u q)=448∧True)∧(Array.size (nwW ts ws u q)=448∧True)∧o=nwW ts ws u q∧h=newI ts u q∧e=newE ts u q∧True))∧((decide (q≤64)==true)=false→(Array.size ws=448∧True)∧(SW ts ws∧TbOk ts∧True)∧(Array.size (nwW ts ws u q)=448∧Array.size (nwW ts ws u q)=448∧True)∧(Array.size (nwW ts ws u q)=448∧True)∧o=nwW ts ws u q∧h=newI ts u q∧e=newE ts u q∧True)
noncomputable def rn0_1 (ts:Array Value) (ws:Array Value) (u:Int) (q:Int) (o:Array Value) (h:Int) (e:Int):Prop:=(decide (q≥0)==true)=false→(Array.size ws=448∧True)∧(SW ts ws∧TbOk ts∧True)∧(Array.size (nwW ts ws u q)=448∧Array.size (nwW ts ws u q)=448∧True)∧(Array.size (nwW ts ws u q)=448∧True)∧o=nwW ts ws u q∧h=newI ts u q∧e=newE ts u q∧True
theorem rn0 (ts ws:Array Value) (u q:Int) (o:Array Value) (h e:Int):(run (EI4 ts) 1000 0 [callFr 37 Tryd.f37.ntmps [wtS ws,i64 (.o u),i64 (.o q)] (Tryd.f37.body.getD .skip)] e0M).vc (whA o h e) (fun _ _=>False) =
  ((((u==0)==false)=true→(Array.size ws=448∧True)∧(SW ts ws∧TbOk ts∧True)∧((gdF ts u==true)=true→(rn0_0 ts ws u q o h e)∧(rn0_1 ts ws u q o h e))∧((gdF ts u==true)=false→(Array.size ws=448∧True)∧(SW ts ws∧TbOk ts∧True)∧(Array.size (nwW ts ws u q)=448∧Array.size (nwW ts ws u q)=448∧True)∧(Array.size (nwW ts ws u q)=448∧True)∧o=nwW ts ws u q∧h=newI ts u q∧e=newE ts u q∧True))∧(((u==0)==false)=false→(rn0_0 ts ws u q o h e)∧(rn0_1 ts ws u q o h e))):=by kernel_rfl
set_option linter.unusedVariables false
theorem conI4_ok (ts:Array Value):∀ g l m t,conI4 ts g l m=some t→Con E0 g l m t:=by
 intro g l m t h
 unfold conI4 at h
 split at h
 ·rename_i ws u q;cases h
  exact Con.n2 (rnew_con u.den q.den m)
 ·exact conI3_ok ts _ _ _ _ h
theorem EI4_ok (ts:Array Value):EnvOk (EI4 ts):=EnvOk.with E0_ok _ _ (conI4_ok ts)
section
variable {ts ws:Array Value}
def fnW (ts ws:Array Value) (u q:Int):Array Value:=if fnE ts u q=0 then nwW ts ws u q else ws
theorem SW.fnew (w:SW ts ws) (hv:FV ts) {u q:Int} (hu:inH u):SW (fnT ts u q) (fnW ts ws u q):=by
 unfold fnT fnW
 split
 ·rename_i e
  refine w.new hv hu ?_
  unfold fnE at e
  split at e
  ·exact absurd e (by decide)
  ·exact e
 ·exact w
theorem lim_iff (u q:Int):(newE ts u q=0∨newE ts u q=7)↔((u=0∨gdF ts u=true)∧0≤q∧q≤64):=by
 constructor
 ·intro h
  unfold newE at h
  split at h
  ·omega
  ·rename_i n
   split at h
   ·rename_i hq
    refine ⟨?_,hq⟩
    by_cases c:u=0
    ·exact .inl c
    ·right
     cases d:gdF ts u with
     | true=>rfl
     | false=>exact absurd ⟨c,d⟩ n
   ·omega
 ·rintro ⟨h1,h2⟩
  unfold newE
  rw [if_neg (fun k=>h1.elim k.1 fun g=>by rw [k.2] at g;cases g),if_pos h2]
  split
  ·exact .inl rfl
  ·exact .inr rfl
theorem rfnew_con (u q:Int) (m:SMem):Con E0 37 [wtS ws,i64 (.o u),i64 (.o q)] m (needs [SW ts ws,FV ts,inH u] (.ret (.tup [.agg (.op (fnW ts ws u q)),.c (.f (.int .i64 (.o (fnI ts u q)))),.c (.f (.int .i64 (.o (fnE ts u q))))]) m)):=by
 refine Con.pure E0_ok (by kernel_rfl:E0.fn 37=some Tryd.f37) (by kernel_rfl:Tryd.f37.body=some (Tryd.f37.body.getD .skip)) (by kernel_rfl) (by kernel_rfl) fun hq=>?_
 have w:SW ts ws:=hq _ (by simp)
 have hv:FV ts:=hq _ (by simp)
 have hu:inH u:=hq _ (by simp)
 have hf:=hv.f
 have hb:=hf.ok
 have hz:=w.sz
 refine (Good.ret [] (run_vc (EI4_ok ts) 1000 (rn0 ts ws u q (fnW ts ws u q) (fnI ts u q) (fnE ts u q)) ?_ (fun s m h=>h) fun _ _ h=>h.elim)).mono fun _ _ h=>h.1
 unfold rn0_1 rn0_0
 have sn:(nwW ts ws u q).size=448:=by
  by_cases c:newE ts u q=0
  ·exact (w.new hv hu c).sz
  ·unfold nwW;rw [if_neg c];exact hz
 by_cases L:((u=0∨gdF ts u=true)∧0≤q∧q≤64)∧6≤depF ts u
 ·have e:fnE ts u q=8:=by unfold fnE;rw [if_pos ⟨(lim_iff u q).2 L.1,L.2⟩]
  have e1:fnW ts ws u q=ws:=by unfold fnW;rw [e];rfl
  have e2:fnI ts u q=0:=by unfold fnI;rw [e];rfl
  obtain ⟨⟨l1,l2,l3⟩,l4⟩:=L
  have d2:decide (q≥0)=true:=decide_eq_true l2
  have d3:decide (q≤64)=true:=decide_eq_true l3
  have d4:decide ((depF ts u:Int)>5)=true:=decide_eq_true (by omega)
  by_cases z:u=0
  ·have d0:(u==0)=true:=beq_iff_eq.2 z
   simp only [d0,d2,d3,d4,e,e1,e2,hz,w,hf,hb,q8,q6]
  ·have d0:(u==0)=false:=beq_eq_false_iff_ne.2 z
   have d1:=l1.resolve_left z
   simp only [d0,d1,d2,d3,d4,e,e1,e2,hz,w,hf,hb,q8,q6]
 ·have e:fnE ts u q=newE ts u q:=by unfold fnE;rw [if_neg (fun k=>L ⟨(lim_iff u q).1 k.1,k.2⟩)]
  have e1:fnW ts ws u q=nwW ts ws u q:=by
   unfold fnW
   rw [e]
   split
   ·rfl
   ·rename_i k;unfold nwW;rw [if_neg k]
  have e2:fnI ts u q=newI ts u q:=by unfold fnI newI;rw [e]
  cases d0:(u==0) <;> cases d1:gdF ts u <;> cases d2:decide (q≥0) <;> cases d3:decide (q≤64) <;> cases d4:decide ((depF ts u:Int)>5)
  all_goals first
   |(exfalso
     refine L ⟨⟨?_,of_decide_eq_true d2,of_decide_eq_true d3⟩,by have:=of_decide_eq_true d4;omega⟩
     first
      | exact .inl (eq_of_beq d0)
      | exact .inr d1)
   | simp only [d0,d1,d2,d3,d4,e,e1,e2,sn,hz,w,hf,hb,q8,q6]
end
section
variable {ws:Array Value}
def voW (ws:Array Value) (h:Int):Array Value:=if slW ws h<0 then ws else if gnW ws (slW ws h).toNat=8388607 then (ws.setIfInBounds (32+(slW ws h).toNat) (.int .i64 0)).setIfInBounds (32+(slW ws h).toNat) (.int .i64 2) else (ws.setIfInBounds (32+(slW ws h).toNat) (.int .i64 0)).setIfInBounds (slW ws h).toNat (.int .i64 (gnW ws (slW ws h).toNat+1))
theorem slFrom_lt {vs:Array Value} {h:Int}:∀ n i,i+n=32→slFrom vs h n i<32
 | 0,i,e=>by show (-1:Int)<32;decide
 | n+1,i,e=>by
  show (if knW vs i=1∧nameI i (gnW vs i)=h then (i:Int) else slFrom vs h n (i+1))<32
  split
  ·omega
  ·exact slFrom_lt n (i+1) (by omega)
theorem rvoid_con (h:Int) (m:SMem):Con E0 78 [wbS ws,i64 (.o h)] m (needs [WB ws] (.ret (.tup [.agg (.op (voW ws h)),.c (.f (.bool (.o (decide (0≤slW ws h)))))]) m)):=by
 refine Con.pure E0_ok (by kernel_rfl:E0.fn 78=some Tryd.f78) (by kernel_rfl:Tryd.f78.body=some (Tryd.f78.body.getD .skip)) (by kernel_rfl) (by kernel_rfl) fun hq=>?_
 have hw:WB ws:=hq _ (by simp)
 refine (Good.ret [] (run_vc EI1_ok 1000 (vo0 ws h (voW ws h) (decide (0≤slW ws h))) ?_ (fun s m h=>h) fun _ _ h=>h.elim)).mono fun _ _ h=>h.1
 unfold vo0_2 vo0_1 vo0_0
 have hz:=hw.sz
 by_cases c:slW ws h<0
 ·have d:decide (slW ws h<0)=true:=decide_eq_true c
  have e:voW ws h=ws:=if_pos c
  have e2:decide (0≤slW ws h)=false:=decide_eq_false (by omega)
  simp only [d,e,e2,hz,hw,q6]
 ·have hlt:slW ws h<32:=slFrom_lt 32 0 rfl
  have hk:voW ws h=if gnW ws (slW ws h).toNat=8388607 then (ws.setIfInBounds (32+(slW ws h).toNat) (.int .i64 0)).setIfInBounds (32+(slW ws h).toNat) (.int .i64 2) else (ws.setIfInBounds (32+(slW ws h).toNat) (.int .i64 0)).setIfInBounds (slW ws h).toNat (.int .i64 (gnW ws (slW ws h).toNat+1)):=if_neg c
  rw [hk]
  generalize eI:slW ws h=x at *
  obtain ⟨i,rfl⟩:∃ j:Nat,x=(j:Int):=⟨x.toNat,by omega⟩
  have hi:i<32:=by omega
  have y0:0≤(i:Int):=by omega
  have d:decide ((i:Int)<0)=false:=decide_eq_false (by omega)
  have e2:decide (0≤(i:Int))=true:=decide_eq_true y0
  obtain ⟨s1,s2,s3⟩:=set_kn (x:=0) hw hi ⟨by decide,by decide⟩
  have g1:=s1.g i hi
  have g2:intAt (ws.setIfInBounds (32+i) (.int .i64 0)) i=gnW ws i:=s2 i hi
  have hr:=hw.rg i hi
  have y3:32+i<64:=by omega
  have y4:i<64:=by omega
  by_cases k:gnW ws i=8388607
  ·have d2:(gnW ws i==8388607)=true:=beq_iff_eq.2 k
   simp only [d,d2,e2,if_pos k,y0,hlt,y3,y4,g1,g2,hz,hw,Array.size_setIfInBounds,decide_true,q7,q6]
  ·have d2:(gnW ws i==8388607)=false:=beq_eq_false_iff_ne.2 k
   have ea:ari .add .i64 (gnW ws i) 1=gnW ws i+1:=by rw [ari_add,i64_in' (by omega) (by omega)]
   simp only [d,d2,e2,ea,if_neg k,y0,hlt,y3,y4,g1,g2,hz,hw,Array.size_setIfInBounds,decide_true,q7,q6]
end
set_option linter.unusedVariables false
noncomputable def conWUn (ts:Array Value) (n:Nat) (g:FuncId) (l:List SV) (m:SMem):Option Tree:=match g,l with
 | 59,[.s (.agg (.op ws)),.s (.c (.f (.int .i64 h)))]=>some (.need [SW ts ws,FIn ts,14≤depF ts h.den+n] (rowW (unT ts h.den) m))
 | 77,[.s (.agg (.op ws)),.s (.c (.f (.int .i64 h)))]=>some (.need [SW ts ws,TbOk ts] (rowW (kdF ts h.den) m))
 | 28,[.s (.agg (.op ws)),.s (.c (.f (.int .i64 a))),.s (.c (.f (.int .i64 h)))]=>some (.need [SW ts ws,FIn ts] (.ret (sB (.o (outF ts a.den h.den))) m))
 | g,l=>conI3 ts g l m
noncomputable def EWUn (ts:Array Value) (n:Nat):Env:=⟨Tryd.prog,fnOf,conWUn ts n,haltAt [59*1000+6]⟩
noncomputable def EWUz (ts:Array Value) (n:Nat):Env:=⟨Tryd.prog,fnOf,conWUn ts n,haltAt [59*1000+8]⟩
noncomputable def wuU_d0:List SIt:=sekF Tryd.f59 6
noncomputable def wuU_F (ws:Array Value) (h:Int) (n:Nat) (rs:Array Value) (i:Int) (k:Nat) (cs:Array Value):List SFr:=[frOf 59 Tryd.f59 [(1,i64 (.o h)),(2,ptr 0 (.l 0)),(5,slS 1 k),(6,slS 2 n),(7,i64 (.o i))] wuU_d0]
noncomputable def wuU_M (ws:Array Value) (h:Int) (n:Nat) (rs:Array Value) (i:Int) (k:Nat) (cs:Array Value):SMem:=mkM 3 [(0,⟨.op ws,51,true⟩),(1,⟨.pop cs,3,true⟩),(2,⟨.pop rs,3,true⟩)]
noncomputable def wuU_n (ws:Array Value) (h:Int) (n:Nat) (rs:Array Value) (Q:Int→Nat→Array Value→Prop) (fs:List SFr) (m:SMem):Prop:=(match frNth fs 0 with | some f0=>(match rdI f0 7 with | some i=>(match rdP f0 2 with | some p0=>(match rdSI f0 5 with | some p1=>(match rdSI f0 6 with | some p2=>(match rdSN f0 5 with | some k=>(match rdA m p1 with | some cs=>Q i k cs∧subOk 0 [(0,p0),(1,p1),(2,p2)] (wuU_F ws h n rs i k cs) (wuU_M ws h n rs i k cs) fs m | none=>False) | none=>False) | none=>False) | none=>False) | none=>False) | none=>False) | none=>False)
noncomputable def wuu0_t (ts:Array Value) (n:Nat) (ws:Array Value) (h:Int):Tree:=run (EWUn ts n) 1000 0 [callFr 59 Tryd.f59.ntmps [wtS ws,i64 (.o h)] (Tryd.f59.body.getD .skip)] e0M
noncomputable def wuu1_t (ts:Array Value) (n:Nat) (ws:Array Value) (h:Int) (r:Nat) (rs:Array Value) (i:Int) (k:Nat) (cs:Array Value):Tree:=stepT (EWUn ts n).go (run (EWUn ts n) 1000) 0 (wuU_F ws h r rs i k cs) (wuU_M ws h r rs i k cs)
theorem wuU_d0_ok (r:Nat→Option Nat):TodoOk r wuU_d0 wuU_d0:=TodoOk.it (by kernel_rfl)
theorem wuU_good {A:SV→SMem→Prop} {ws:Array Value} {h:Int} {n:Nat} {rs:Array Value} {Q:Int→Nat→Array Value→Prop} {fs:List SFr} {m:SMem} (H:∀ i k cs,Q i k cs→Good Tryd.prog A 0 (wuU_F ws h n rs i k cs) (wuU_M ws h n rs i k cs)) (hb:wuU_n ws h n rs Q fs m):Good Tryd.prog A 0 fs m:=by
 unfold wuU_n at hb
 iterate 7 (split at hb;rotate_left;exact hb.elim)
 exact Good.of_sub hb.2 (H _ _ _ hb.1)
set_option maxRecDepth 100000
theorem wuuE (ts:Array Value) (n:Nat) (ws:Array Value) (h:Int):(wuu0_t ts n ws h).vc nilK (fun _ _=>False) =
  ((Array.size ws=448∧True)∧(SW ts ws∧TbOk ts∧True)∧((!gdF ts h)=true→True)∧((!gdF ts h)=false→(Array.size ws=448∧True)∧(SW ts ws∧TbOk ts∧True)∧(decide (List.length (kdF ts h)=0)=true→False)∧(decide (List.length (kdF ts h)=0)=false→False))):=by kernel_rfl
noncomputable def wuu1_0 (rs:Array Value) (i:Int):Int:=intAt rs (0+Int.toNat i*1)
theorem wuu1 (ts:Array Value) (n:Nat) (ws:Array Value) (h:Int) (r:Nat) (rs:Array Value) (i:Int) (k:Nat) (cs:Array Value) (kF:Nat) (csF:Array Value) (Q:Int→Nat→Array Value→Prop):(wuu1_t ts n ws h r rs i k cs).vc (freshA kF csF 3) (wuU_n ws h r rs Q) =
  ((decide (i<(↑r:Int))=true→(Array.size ws=448∧True)∧((0≤i∧i<(↑r:Int))∧True)∧(IsInt .i64 rs (0+Int.toNat i*1)∧True)∧(SW ts ws∧FIn ts∧(14:Nat)≤depF ts (wuu1_0 rs i)+n∧True)∧(decide (List.length (unT ts (wuu1_0 rs i))=0)=true→Q (ari .add .i64 i 1) k cs∧cN∧TodoOk (ren 0 [(0,0),(1,1),(2,2)]) wuU_d0 wuU_d0∧h=h∧ari .add .i64 i 1=ari .add .i64 i 1∧k=k∧r=r∧51=51∧ws=ws∧3=3∧cs=cs∧3=3∧rs=rs∧True)∧(decide (List.length (unT ts (wuu1_0 rs i))=0)=false→(0+List.length (unT ts (wuu1_0 rs i))*1≤Array.size (i64s (unT ts (wuu1_0 rs i)))∧((k+List.length (unT ts (wuu1_0 rs i)))*8≤140737488355328∧k+List.length (unT ts (wuu1_0 rs i))≤140737488355328)∧k*1=Array.size cs∧True)∧Q (ari .add .i64 i 1) (k+List.length (unT ts (wuu1_0 rs i))) (cs++Array.extract (i64s (unT ts (wuu1_0 rs i))) (0:Nat) (0+List.length (unT ts (wuu1_0 rs i))*1))∧cN∧TodoOk (ren 0 [(0,0),(1,4),(2,2)]) wuU_d0 wuU_d0∧h=h∧ari .add .i64 i 1=ari .add .i64 i 1∧k+List.length (unT ts (wuu1_0 rs i))=k+List.length (unT ts (wuu1_0 rs i))∧r=r∧51=51∧ws=ws∧3=3∧cs++Array.extract (i64s (unT ts (wuu1_0 rs i))) (0:Nat) (0+List.length (unT ts (wuu1_0 rs i))*1)=cs++Array.extract (i64s (unT ts (wuu1_0 rs i))) (0:Nat) (0+List.length (unT ts (wuu1_0 rs i))*1)∧3=3∧rs=rs∧True))∧(decide (i<(↑r:Int))=false→kF=k∧3=3∧csF=cs∧True)):=by kernel_rfl
set_option linter.unusedVariables false
noncomputable def freshL (h:Int) (ty:TypeId) (s:SV) (m:SMem):Prop:=match s with | .s (.c (.f (.slice sid _ _ _)))=>retOk 0 [(0,sid)] (.s (.c (.f (.slice 0 (.l 0) (.l 1) (.n (.l 1)))))) (mkM 1 [(0,⟨.ls [.f (.int .i64 (.o h))],ty,true⟩)]) s m | _=>False
noncomputable def wuA_d0:List SIt:=sekF Tryd.f59 6
noncomputable def wuA_F (ws:Array Value) (h:Int) (n:Nat) (rs:Array Value):List SFr:=[frOf 59 Tryd.f59 [(1,i64 (.o h)),(2,ptr 0 (.l 0)),(5,.s (.c (.f (.slice 1 (.l 0) (.l 1) (.n (.l 1)))))),(6,slS 2 n),(7,i64 (.o 0))] wuA_d0]
noncomputable def wuA_M (ws:Array Value) (h:Int) (n:Nat) (rs:Array Value):SMem:=mkM 3 [(0,⟨.op ws,51,true⟩),(1,⟨.ls [.f (.int .i64 (.o h))],3,true⟩),(2,⟨.pop rs,3,true⟩)]
noncomputable def wuA_n (ws:Array Value) (h:Int) (n:Nat) (rs:Array Value) (Q:Prop) (fs:List SFr) (m:SMem):Prop:=(match frNth fs 0 with | some f0=>(match rdP f0 2 with | some p0=>(match rdSI f0 5 with | some p1=>(match rdSI f0 6 with | some p2=>Q∧subOk 0 [(0,p0),(1,p1),(2,p2)] (wuA_F ws h n rs) (wuA_M ws h n rs) fs m | none=>False) | none=>False) | none=>False) | none=>False)
noncomputable def wua1_t (ts:Array Value) (n:Nat) (ws:Array Value) (h:Int) (r:Nat) (rs:Array Value):Tree:=stepT (EWUn ts n).go (run (EWUn ts n) 1000) 0 (wuA_F ws h r rs) (wuA_M ws h r rs)
theorem wuA_d0_ok (r:Nat→Option Nat):TodoOk r wuA_d0 wuA_d0:=TodoOk.it (by kernel_rfl)
theorem wuA_good {A:SV→SMem→Prop} {ws:Array Value} {h:Int} {n:Nat} {rs:Array Value} {Q:Prop} {fs:List SFr} {m:SMem} (H:Q →Good Tryd.prog A 0 (wuA_F ws h n rs) (wuA_M ws h n rs)) (hb:wuA_n ws h n rs Q fs m):Good Tryd.prog A 0 fs m:=by
 unfold wuA_n at hb
 iterate 4 (split at hb;rotate_left;exact hb.elim)
 exact Good.of_sub hb.2 (H  hb.1)
set_option maxRecDepth 100000
theorem wuuL (ts:Array Value) (n:Nat) (ws:Array Value) (h:Int):(run (EWUz ts n) 1000 0 [callFr 59 Tryd.f59.ntmps [wtS ws,i64 (.o h)] (Tryd.f59.body.getD .skip)] e0M).vc (freshL h 3) (fun _ _=>False) =
  ((Array.size ws=448∧True)∧(SW ts ws∧TbOk ts∧True)∧((!gdF ts h)=true→False)∧((!gdF ts h)=false→(Array.size ws=448∧True)∧(SW ts ws∧TbOk ts∧True)∧(decide (List.length (kdF ts h)=0)=true→3=3∧h=h∧True)∧(decide (List.length (kdF ts h)=0)=false→(decide ((0:Int)<(↑(List.length (kdF ts h)):Int))=true→False)∧(decide ((0:Int)<(↑(List.length (kdF ts h)):Int))=false→3=3∧h=h∧True)))):=by kernel_rfl
theorem wuuA (ts:Array Value) (n:Nat) (ws:Array Value) (h:Int) (r:Nat) (rs:Array Value) (kF:Nat) (csF:Array Value):(wuu0_t ts n ws h).vc (freshA kF csF 3) (wuA_n ws h r rs True) =
  ((Array.size ws=448∧True)∧(SW ts ws∧TbOk ts∧True)∧((!gdF ts h)=true→False)∧((!gdF ts h)=false→(Array.size ws=448∧True)∧(SW ts ws∧TbOk ts∧True)∧(decide (List.length (kdF ts h)=0)=true→False)∧(decide (List.length (kdF ts h)=0)=false→True∧cN∧TodoOk (ren 0 [(0,0),(1,1),(2,2)]) wuA_d0 wuA_d0∧h=h∧(0:Int)=(0:Int)∧r=List.length (kdF ts h)∧51=51∧ws=ws∧3=3∧h=h∧3=3∧rs=i64s (kdF ts h)∧True))):=by kernel_rfl
noncomputable def wua1_0 (rs:Array Value):Int:=intAt rs (0+0*1)
theorem wua1 (ts:Array Value) (n:Nat) (ws:Array Value) (h:Int) (r:Nat) (rs:Array Value) (kF:Nat) (csF:Array Value) (Q:Int→Nat→Array Value→Prop):(wua1_t ts n ws h r rs).vc (freshA kF csF 3) (wuU_n ws h r rs Q) =
  ((decide ((0:Int)<(↑r:Int))=true→(Array.size ws=448∧True)∧(((0:Int)≤0∧(0:Int)<(↑r:Int))∧True)∧(IsInt .i64 rs (0+0*1)∧True)∧(SW ts ws∧FIn ts∧(14:Nat)≤depF ts (wua1_0 rs)+n∧True)∧(decide (List.length (unT ts (wua1_0 rs))=0)=true→Q (1:Int) (1:Nat) #[Value.int .i64 h]∧False)∧(decide (List.length (unT ts (wua1_0 rs))=0)=false→(0+List.length (unT ts (wua1_0 rs))*1≤Array.size (i64s (unT ts (wua1_0 rs)))∧((1+List.length (unT ts (wua1_0 rs)))*8≤140737488355328∧1+List.length (unT ts (wua1_0 rs))≤140737488355328)∧True)∧Q (1:Int) (1+List.length (unT ts (wua1_0 rs))) (#[Value.int .i64 h]++Array.extract (i64s (unT ts (wua1_0 rs))) (0:Nat) (0+List.length (unT ts (wua1_0 rs))*1))∧cN∧TodoOk (ren 0 [(0,0),(1,4),(2,2)]) wuA_d0 wuA_d0∧h=h∧(1:Int)=(1:Int)∧1+List.length (unT ts (wua1_0 rs))=1+List.length (unT ts (wua1_0 rs))∧r=r∧51=51∧ws=ws∧3=3∧#[Value.int .i64 h]++Array.extract (i64s (unT ts (wua1_0 rs))) (0:Nat) (0+List.length (unT ts (wua1_0 rs))*1)=#[Value.int .i64 h]++Array.extract (i64s (unT ts (wua1_0 rs))) (0:Nat) (0+List.length (unT ts (wua1_0 rs))*1)∧3=3∧rs=rs∧True))∧(decide ((0:Int)<(↑r:Int))=false→False)):=by kernel_rfl
set_option linter.unusedVariables false
theorem Good.full1 {P:Program} {fs:List SFr} {m:SMem} {x:Int} {ty:TypeId} (hg:Good P (fun s m'=>s=.s (.c (.f (.slice 0 (.l 0) (.l 1) (.n (.l 1)))))∧m'=mkM 1 [(0,⟨.ls [.f (.int .i64 (.o x))],ty,true⟩)]) 0 fs m):Good P (fun s m'=>s=.s (.c (.f (.slice 0 (.l 0) (.o 1) (.full 1))))∧m'=mkM 1 [(0,⟨.pop #[.int .i64 x],ty,true⟩)]) 0 fs m:=by
 intro n0 F w0 ws w Rs R fr frs hf hR hX hs
 refine (hg n0 F w0 ws w Rs R fr frs hf hR hX hs).mono ?_
 rintro v w' ⟨s,m',R',⟨rfl,rfl⟩,hX',hR',hv⟩
 obtain ⟨g,cs,fz,e1,e2,e3,e4,e5⟩:=hR'.blk 0 ⟨.ls [.f (.int .i64 (.o x))],ty,true⟩ rfl
 have hc:cs=#[.int .i64 x]:=by
  have e4:All2 (SC.ok R') [.f (.int .i64 (.o x))] cs.toList:=e4
  cases hl:cs.toList with
  | nil=>rw [hl] at e4;exact e4.elim
  | cons a l =>
   rw [hl] at e4
   obtain ⟨h1,h2⟩:=e4
   cases l with
   | nil =>
    have h1:a=.int .i64 x:=h1
    rw [h1] at hl
    apply Array.toList_inj.1
    rw [hl]
   | cons b l=>exact h2.elim
 have hn:g.n=1:=by rw [← e3,hc];rfl
 have key:∀ i b,getB (mkM 1 [(0,⟨.pop #[.int .i64 x],ty,true⟩)]).bl i=some b→i=0∧b=⟨.pop #[.int .i64 x],ty,true⟩:=by
  intro i b h
  have h:getB (Tr.nil.set 0 (some ⟨.pop #[.int .i64 x],ty,true⟩)) i=some b:=h
  cases i with
  | zero=>exact ⟨rfl,(Option.some.inj h).symm⟩
  | succ i=>exact absurd h (by
    rw [getB_set,if_neg (by omega)]
    intro h;cases h)
 refine ⟨_,_,R',⟨rfl,rfl⟩,hX',?_,?_⟩
 ·refine { hR' with inj:=?_,blk:=?_ }
  ·intro i j g h b c _ _ _ hi hj _
   rw [(key i b hi).1,(key j c hj).1]
  ·intro i b h
   obtain ⟨rfl,rfl⟩:=key i b h
   refine ⟨g,cs,fz,e1,e2,e3,?_,e5⟩
   show SA.okM R' (.pop #[.int .i64 x]) cs
   rw [hc]
   refine ⟨rfl,?_⟩
   intro v hv
   rw [List.mem_singleton.1 hv]
   rfl
 ·obtain ⟨g',c,k1,k2,k3,k4⟩:=hv
  rw [e1] at k1
  obtain rfl:=Option.some.inj k1
  have k3:c=1:=k3
  refine ⟨g,c,e1,k2,?_,k4⟩
  show c*1=g.n∧c≤maxLen
  rw [k3,hn]
  exact ⟨rfl,by decide⟩
section
variable {ts ws:Array Value} {h:Int}
theorem i64s_cat (l r:List Int):i64s (l++r)=i64s l++i64s r:=by unfold i64s;simp
noncomputable def unP (ts:Array Value) (h:Int) (i:Nat):List Int:=h :: ((kdF ts h).take i).flatMap (UNL ts)
theorem unP_succ {i:Nat} (hi:i<(kdF ts h).length):unP ts h (i+1)=unP ts h i++UNL ts ((kdF ts h).getD i 0):=by
 unfold unP
 rw [List.take_add_one,List.getElem?_eq_getElem hi,Option.toList_some,List.flatMap_append,List.flatMap_cons,List.flatMap_nil,List.append_nil,List.getD_eq_getElem?_getD,List.getElem?_eq_getElem hi]
 rfl
theorem unP_all (hf:FIn ts) (hg:gdF ts h=true):unP ts h (kdF ts h).length=unT ts h:=by
 have hx:=(lv_mem hf.ok).2 hg
 unfold unP unT
 rw [List.take_length,if_pos hg,kdF_eq hf hx]
 exact (unl_cons hf hx).symm
theorem kdF_mem {x:Int} (hk:x∈kdF ts h):x∈lvT ts∧upF ts x=h:=by
 unfold kdF at hk
 split at hk
 ·obtain ⟨a,b⟩:=List.mem_filter.1 hk
  exact ⟨a,by simpa using b⟩
 ·cases hk
theorem conWUn_ok (n:Nat) (ih:∀ (ws:Array Value) (h:Int) (m:SMem),Con E0 59 [wtS ws,i64 (.o h)] m (.need [SW ts ws,FIn ts,14≤depF ts h+n] (rowW (unT ts h) m))):∀ g l m t,conWUn ts n g l m=some t→Con E0 g l m t:=by
 intro g l m t h
 unfold conWUn at h
 split at h
 ·rename_i ws x;cases h
  exact Con.n1 (ih ws x.den m)
 ·rename_i ws x;cases h
  exact Con.n1 (rkids_con x.den m)
 ·rename_i ws a x;cases h
  exact Con.n2 (rout_con a.den x.den m)
 ·exact conI3_ok ts _ _ _ _ h
theorem wuU_ok {n:Nat} (hE:EnvOk (EWUn ts n)) (w:SW ts ws) (hf:FIn ts) (hg:gdF ts h=true) (hn:14≤depF ts h+(n+1)):∀ (k i:Nat),i+k=(kdF ts h).length→Good Tryd.prog (freshA (unT ts h).length (i64s (unT ts h)) 3) 0 (wuU_F ws h (kdF ts h).length (i64s (kdF ts h)) (i:Int) (unP ts h i).length (i64s (unP ts h i))) (wuU_M ws h (kdF ts h).length (i64s (kdF ts h)) (i:Int) (unP ts h i).length (i64s (unP ts h i))):=by
 have hz:=w.sz
 have hb:=hf.ok
 have hx:=(lv_mem hb).2 hg
 have hlen:=kd_len ts h
 have hu:(unT ts h).length≤32:=by
  have:=un_32 hf hx
  unfold unT
  rw [if_pos hg]
  exact this
 intro k
 induction k with
 | zero =>
  intro i hi
  obtain rfl:i=(kdF ts h).length:=by omega
  refine past_vc hE 1000 (wuu1 ts n ws h _ _ _ _ _ (unT ts h).length (i64s (unT ts h)) (fun _ _ _=>False)) ?_ (fun _ _ h=>h) (fun fs m hb=>wuU_good (fun _ _ _ h=>h.elim) hb)
  unfold wuu1_0
  have d:decide (((kdF ts h).length:Int)<((kdF ts h).length:Int))=false:=decide_eq_false (by omega)
  simp only [d,unP_all hf hg,q6]
 | succ k ih =>
  intro i hi
  have hi':i<(kdF ts h).length:=by omega
  have e0:=unP_succ hi'
  have hk:=kdF_mem (show (kdF ts h).getD i 0∈kdF ts h by rw [List.getD_eq_getElem?_getD,List.getElem?_eq_getElem hi'];exact List.getElem_mem hi')
  have gk:=(lv_mem hb).1 hk.1
  have dk:=dep_up hf gk
  rw [hk.2] at dk
  have hn2:14≤depF ts ((kdF ts h).getD i 0)+n:=by omega
  have eu:unT ts ((kdF ts h).getD i 0)=UNL ts ((kdF ts h).getD i 0):=if_pos gk
  have hu0:(UNL ts ((kdF ts h).getD i 0)).length≠0:=by rw [unl_cons hf hk.1,List.length_cons];omega
  have hu1:(UNL ts ((kdF ts h).getD i 0)).length≤32:=un_32 hf hk.1
  have d0:decide ((UNL ts ((kdF ts h).getD i 0)).length=0)=false:=decide_eq_false hu0
  have hp:(unP ts h i).length≤2000:=by
   unfold unP
   have:∀ l:List Int,(∀ x∈l,(UNL ts x).length≤32)→(l.flatMap (UNL ts)).length≤l.length*32:=by
    intro l
    induction l with
    | nil=>intro _;simp
    | cons a l ihl =>
     intro h
     have h1:=ihl fun x hx=>h x (List.mem_cons_of_mem _ hx)
     have h2:=h a (List.mem_cons_self ..)
     rw [List.flatMap_cons,List.length_append,List.length_cons]
     omega
   have h1:=this ((kdF ts h).take i) fun x hx=>un_32 hf (kdF_mem (List.mem_of_mem_take hx)).1
   have h2:((kdF ts h).take i).length≤32:=Nat.le_trans (List.length_take_le ..) (by omega)
   rw [List.length_cons]
   omega
  refine past_vc hE 1000 (wuu1 ts n ws h _ _ (i:Int) _ _ (unT ts h).length (i64s (unT ts h)) (fun i' k' c'=>i'=((i+1:Nat):Int)∧k'=(unP ts h (i+1)).length∧c'=i64s (unP ts h (i+1)))) ?_ (fun _ _ h=>h) (fun fs m hb=>wuU_good (fun i' k' c' ⟨e1,e2,e3⟩=>by rw [e1,e2,e3];exact ih (i+1) (by omega)) hb)
  unfold wuu1_0
  have d:decide ((i:Int)<((kdF ts h).length:Int))=true:=decide_eq_true (by omega)
  have ei:ari .add .i64 (i:Int) 1=((i+1:Nat):Int):=by rw [ari_add,i64_in' (by omega) (by omega)];omega
  have g1:IsInt .i64 (i64s (kdF ts h)) i:=isI_of (i64s_at hi')
  have g2:intAt (i64s (kdF ts h)) i=(kdF ts h).getD i 0:=intAt_of (i64s_at hi')
  have hx0:0≤(i:Int):=by omega
  have hx1:(i:Int)<((kdF ts h).length:Int):=by omega
  have hl1:(((unP ts h i).length+(UNL ts ((kdF ts h).getD i 0)).length)*8≤140737488355328∧(unP ts h i).length+(UNL ts ((kdF ts h).getD i 0)).length≤140737488355328):=⟨by omega,by omega⟩
  have ex:(i64s (UNL ts ((kdF ts h).getD i 0))).extract 0 (UNL ts ((kdF ts h).getD i 0)).length=i64s (UNL ts ((kdF ts h).getD i 0)):=by
   rw [← i64s_size,Array.extract_size]
  rw [e0]
  have t1:TodoOk (ren 0 [(0,0),(1,4),(2,2)]) wuU_d0 wuU_d0:=wuU_d0_ok _
  simp only [d,d0,ei,g1,g2,hx0,hx1,hz,w,hf,hn2,eu,hl1,ex,t1,i64s_size,i64s_cat,List.length_append,Nat.le_refl,decide_true,wuU_d0_ok,q7,q6]
theorem under_levels (ts:Array Value):∀ n:Nat,∀ (ws:Array Value) (h:Int) (m:SMem),Con E0 59 [wtS ws,i64 (.o h)] m (.need [SW ts ws,FIn ts,14≤depF ts h+n] (rowW (unT ts h) m)):=by
 intro n
 induction n with
 | zero =>
  intro ws h m
  refine Con.asked fun hq=>?_
  have hf:FIn ts:=hq _ (by simp)
  have hd:14≤depF ts h+0:=hq _ (by simp)
  have:=dep_13 hf h
  omega
 | succ n ih =>
  intro ws h m
  have hE:EnvOk (EWUn ts n):=EnvOk.with E0_ok _ _ (conWUn_ok n ih)
  have hEz:EnvOk (EWUz ts n):=EnvOk.with E0_ok _ _ (conWUn_ok n ih)
  refine Con.asked fun hq=>?_
  have w:SW ts ws:=hq _ (by simp)
  have hf:FIn ts:=hq _ (by simp)
  have hd:14≤depF ts h+(n+1):=hq _ (by simp)
  have hz:=w.sz
  have hb:=hf.ok
  intro A hs
  cases hg:gdF ts h with
  | false =>
   have e:unT ts h=[]:=by unfold unT;rw [hg];rfl
   rw [e] at hs
   have hs:A (.s (.c (.f (.lit (.slice none 0 0))))) m:=hs.1 rfl
   refine (show Con E0 59 [wtS ws,i64 (.o h)] m (needs [] (.ret (.s (.c (.f (.lit (.slice none 0 0))))) m)) from Con.pure E0_ok (by kernel_rfl:E0.fn 59=some Tryd.f59) (by kernel_rfl:Tryd.f59.body=some (Tryd.f59.body.getD .skip)) (by kernel_rfl) (by kernel_rfl) fun _=>?_) A hs
   refine Good.mono (A:=nilK) ?_ ?_
   ·refine run_vc hE 1000 (wuuE ts n ws h) ?_ (fun s m h=>h) fun _ _ h=>h.elim
    simp only [hz,w,hb,hg,Bool.not_false,q6]
   ·intro s m' hs
    unfold nilK at hs
    split at hs
    ·rfl
    ·exact hs.elim
  | true =>
   have hx:=(lv_mem hb).2 hg
   have hun:unT ts h=UNL ts h:=if_pos hg
   have hne:decide ((unT ts h).length=0)=false:=decide_eq_false (by rw [hun,unl_cons hf hx,List.length_cons];omega)
   have hs:A (.s (.c (.f (.slice m.next (.l 0) (.o (unT ts h).length) (.full 1))))) (m.new (.pop (i64s (unT ts h))) 3):=hs.2 hne
   by_cases hk:kdF ts h=[]
   ·have eu:unT ts h=[h]:=by rw [hun,unl_cons hf hx,← kdF_eq hf hx,hk];rfl
    rw [eu] at hs
    refine (show Con E0 59 [wtS ws,i64 (.o h)] m (needs [] (.ret (.s (.c (.f (.slice m.next (.l 0) (.o 1) (.full 1))))) (m.new (.pop #[.int .i64 h]) 3))) from Con.fresh E0_ok (by kernel_rfl:E0.fn 59=some Tryd.f59) (by kernel_rfl:Tryd.f59.body=some (Tryd.f59.body.getD .skip)) (by kernel_rfl) rfl fun _=>?_) A hs
    refine Good.full1 (Good.retX ((run_vc hEz 1000 (wuuL ts n ws h) ?_ (fun s m h=>h) fun _ _ h=>h.elim).mono fun s m h=>?_))
    ·have d:decide ((kdF ts h).length=0)=true:=decide_eq_true (by rw [hk];rfl)
     simp only [hz,w,hb,hg,d,Bool.not_true,q6]
    ·unfold freshL at h
     split at h
     ·exact ⟨_,h⟩
     ·exact h.elim
   ·refine (show Con E0 59 [wtS ws,i64 (.o h)] m (needs [] (.ret (.s (.c (.f (.slice m.next (.l 0) (.o (unT ts h).length) (.full 1))))) (m.new (.pop (i64s (unT ts h))) 3))) from Con.fresh E0_ok (by kernel_rfl:E0.fn 59=some Tryd.f59) (by kernel_rfl:Tryd.f59.body=some (Tryd.f59.body.getD .skip)) (by kernel_rfl) rfl fun _=>?_) A hs
    refine Good.retX ((run_vc hE 1000 (wuuA ts n ws h (kdF ts h).length (i64s (kdF ts h)) (unT ts h).length (i64s (unT ts h))) ?_ (fun s m h=>h) fun fs m hm=>wuA_good (A:=freshA (unT ts h).length (i64s (unT ts h)) 3) (fun _=>?_) hm).mono fun s m h=>?_)
    ·have d:decide ((kdF ts h).length=0)=false:=decide_eq_false (fun e=>hk (List.eq_nil_of_length_eq_zero e))
     simp only [hz,w,hb,hg,d,Bool.not_true,wuA_d0_ok,q6]
    ·have hp:=List.length_pos_iff.2 hk
     have hk0:=kdF_mem (show (kdF ts h).getD 0 0∈kdF ts h by rw [List.getD_eq_getElem?_getD,List.getElem?_eq_getElem hp];exact List.getElem_mem hp)
     have gk:=(lv_mem hb).1 hk0.1
     have dk:=dep_up hf gk
     rw [hk0.2] at dk
     have hn2:14≤depF ts ((kdF ts h).getD 0 0)+n:=by omega
     have eu:unT ts ((kdF ts h).getD 0 0)=UNL ts ((kdF ts h).getD 0 0):=if_pos gk
     have hu0:(UNL ts ((kdF ts h).getD 0 0)).length≠0:=by rw [unl_cons hf hk0.1,List.length_cons];omega
     have hu1:(UNL ts ((kdF ts h).getD 0 0)).length≤32:=un_32 hf hk0.1
     have d0:decide ((UNL ts ((kdF ts h).getD 0 0)).length=0)=false:=decide_eq_false hu0
     refine past_vc hE 1000 (wua1 ts n ws h _ _ (unT ts h).length (i64s (unT ts h)) (fun i' k' c'=>i'=((0+1:Nat):Int)∧k'=(unP ts h (0+1)).length∧c'=i64s (unP ts h (0+1)))) ?_ (fun _ _ h=>h) (fun fs m hb=>wuU_good (fun i' k' c' ⟨e1,e2,e3⟩=>by rw [e1,e2,e3];exact wuU_ok hE w hf hg hd ((kdF ts h).length - 1) 1 (by omega)) hb)
     unfold wua1_0
     have d:decide ((0:Int)<((kdF ts h).length:Int))=true:=decide_eq_true (by omega)
     have g1:IsInt .i64 (i64s (kdF ts h)) 0:=isI_of (i64s_at hp)
     have g2:intAt (i64s (kdF ts h)) 0=(kdF ts h).getD 0 0:=intAt_of (i64s_at hp)
     have hx1:(0:Int)<((kdF ts h).length:Int):=by omega
     have hl1:((1+(UNL ts ((kdF ts h).getD 0 0)).length)*8≤140737488355328∧1+(UNL ts ((kdF ts h).getD 0 0)).length≤140737488355328):=⟨by omega,by omega⟩
     have ex:(i64s (UNL ts ((kdF ts h).getD 0 0))).extract 0 (UNL ts ((kdF ts h).getD 0 0)).length=i64s (UNL ts ((kdF ts h).getD 0 0)):=by
      rw [← i64s_size,Array.extract_size]
     have e0:unP ts h 1=[h]++UNL ts ((kdF ts h).getD 0 0):=unP_succ (ts:=ts) (h:=h) hp
     rw [show 0+1=1 from rfl,e0]
     simp only [d,d0,g1,g2,hx1,hz,w,hf,hn2,eu,hl1,ex,i64s_one,i64s_size,i64s_cat,List.length_append,List.length_singleton,Nat.le_refl,Int.le_refl,decide_true,wuU_d0_ok,q7,q6]
     exact ⟨rfl,wuA_d0_ok _⟩
    ·unfold freshA at h
     split at h
     ·exact ⟨_,h⟩
     ·exact h.elim
theorem runder_con (h:Int) (m:SMem):Con E0 59 [wtS ws,i64 (.o h)] m (.need [SW ts ws,FIn ts] (rowW (unT ts h) m)):=by
 refine Con.asked fun hq=>?_
 have w:SW ts ws:=hq _ (by simp)
 have hf:FIn ts:=hq _ (by simp)
 intro A hs
 refine under_levels ts 14 ws h m A ⟨fun p hp=>?_,hs⟩
 simp only [List.mem_cons,List.not_mem_nil,or_false] at hp
 rcases hp with rfl | rfl | rfl
 ·exact w
 ·exact hf
 ·omega
end
set_option linter.unusedVariables false
def zr12:List Value:=[.int .i64 0,.int .i64 0,.slice none 0 0,.int .i64 0,.int .i64 0,.int .i64 0,.int .i64 0,.int .i64 0,.int .i64 0,.int .i64 0,.int .i64 0,.int .i64 0]
def zW:Array Value:=(List.replicate 64 (Value.int .i64 0)++(List.replicate 32 zr12).flatten).toArray
theorem zW_sz:zW.size=448:=by decide +kernel
def drL (us:Array Value) (h:Int):Nat→Array Value
 | 0=>us
 | n+1=>if intAt (drL us h n) (64+n*12)=h then (drL us h n).setIfInBounds (64+n*12) (.int .i64 0) else drL us h n
def dr0 (ws:Array Value) (h:Int):Array Value:=putAt (putAt ws 0 (voW (ws.extract 0 64) h).toList) (64+(slW (ws.extract 0 64) h).toNat*12) zr12
def drW (ws:Array Value) (h:Int):Array Value:=if slW (ws.extract 0 64) h<0 then ws else drL (dr0 ws h) h 32
def drE (ws:Array Value) (h:Int):Int:=if slW (ws.extract 0 64) h<0 then 4 else 0
structure WT (ws:Array Value):Prop where
 sz:ws.size=448
 wb:WB (ws.extract 0 64)
 up:∀ i,i<32→IsInt .i64 ws (64+i*12)
noncomputable def conJ4 (g:FuncId) (l:List SV) (m:SMem):Option Tree:=match g,l with
 | 78,[.s (.agg (.op ws)),.s (.c (.f (.int .i64 h)))]=>some (.need [WB ws] (.ret (.tup [.agg (.op (voW ws h.den)),.c (.f (.bool (.o (decide (0≤slW ws h.den)))))]) m))
 | g,l=>conI1 g l m
noncomputable def EJ4:Env:=⟨Tryd.prog,fnOf,conJ4,haltAt [60*1000+7]⟩
noncomputable def weS (o:Array Value) (e:Int):SV:=.tup [.agg (.op o),.c (.f (.int .i64 (.o e)))]
noncomputable def raW (ts ws:Array Value) (h u:Int):Array Value:=if raE ts h u=0 then ws.setIfInBounds (64+sl h*12) (.int .i64 u) else ws
noncomputable def conJ5 (ts:Array Value) (g:FuncId) (l:List SV) (m:SMem):Option Tree:=match g,l with
 | 60,[.s (.agg (.op ws)),.s (.c (.f (.int .i64 h)))]=>some (.need [WT ws] (.ret (weS (drW ws h.den) (drE ws h.den)) m))
 | 62,[.s (.agg (.op ws)),.s (.c (.f (.int .i64 h))),.s (.c (.f (.int .i64 u)))]=>some (.need [SW ts ws,FIn ts] (.ret (weS (raW ts ws h.den u.den) (raE ts h.den u.den)) m))
 | 59,[.s (.agg (.op ws)),.s (.c (.f (.int .i64 h)))]=>some (.need [SW ts ws,FIn ts] (rowW (unT ts h.den) m))
 | 77,[.s (.agg (.op ws)),.s (.c (.f (.int .i64 h)))]=>some (.need [SW ts ws,TbOk ts] (rowW (kdF ts h.den) m))
 | 28,[.s (.agg (.op ws)),.s (.c (.f (.int .i64 a))),.s (.c (.f (.int .i64 h)))]=>some (.need [SW ts ws,FIn ts] (.ret (sB (.o (outF ts a.den h.den))) m))
 | g,l=>conI3 ts g l m
noncomputable def conJg (ts us:Array Value) (g:FuncId) (l:List SV) (m:SMem):Option Tree:=match g,l with
 | 59,[.s (.agg (.op ws)),.s (.c (.f (.int .i64 h)))]=>some (.need [SW us ws,FIn us] (rowW (unT us h.den) m))
 | 63,[.s (.agg (.op ws)),.s (.c (.f (.int .i64 h)))]=>some (.need [SW us ws,FIn us] (.ret (i64 (.o (depF us h.den:Int))) m))
 | g,l=>conJ5 ts g l m
noncomputable def EJ5 (ts:Array Value):Env:=⟨Tryd.prog,fnOf,conJ5 ts,haltAt [33*1000+6,33*1000+10,31*1000+3]⟩
noncomputable def EJg (ts us:Array Value):Env:=⟨Tryd.prog,fnOf,conJg ts us,haltAt [34*1000+8]⟩
noncomputable def wfS (o:Array Value) (i n:Nat):SV:=.tup [.agg (.op o),.c (.f (.slice i (.l 0) (.o n) (.full 1))),.c (.f (.int .i64 (.o 0)))]
noncomputable def wfA (o:Array Value) (n:Nat) (rs:Array Value) (s:SV) (m:SMem):Prop:=match s with | .tup [_,.c (.f (.slice i _ _ _)),_]=>retOk 0 [(0,i)] (wfS o 0 n) (mkM 1 [(0,⟨.pop rs,3,true⟩)]) s m | _=>False
noncomputable def wfN (ws:Array Value):SV:=.tup [.agg (.op ws),.c (.f (.lit (.slice none 0 0))),.c (.f (.int .i64 (.o 4)))]
noncomputable def wdL_d0:List SIt:=sekF Tryd.f60 7
noncomputable def wdL_F (h:Int) (i:Int) (us:Array Value) (zz:Array Value):List SFr:=[frOf 60 Tryd.f60 [(1,i64 (.o h)),(2,ptr 0 (.l 0)),(4,ptr 1 (.l 0)),(7,i64 (.o i))] wdL_d0]
noncomputable def wdL_M (h:Int) (i:Int) (us:Array Value) (zz:Array Value):SMem:=mkM 2 [(0,⟨.op us,51,true⟩),(1,⟨.op zz,51,true⟩)]
noncomputable def wdL_n (h:Int) (Q:Int→Array Value→Array Value→Prop) (fs:List SFr) (m:SMem):Prop:=(match frNth fs 0 with | some f0=>(match rdI f0 7 with | some i=>(match rdP f0 2 with | some p0=>(match rdP f0 4 with | some p1=>(match rdA m p0 with | some us=>(match rdA m p1 with | some zz=>Q i us zz∧subOk 0 [(0,p0),(1,p1)] (wdL_F h i us zz) (wdL_M h i us zz) fs m | none=>False) | none=>False) | none=>False) | none=>False) | none=>False) | none=>False)
noncomputable def wcO_d0:List SIt:=sekF Tryd.f33 6
noncomputable def wcO_F (ws:Array Value) (h:Int) (n:Nat) (ks:Array Value) (i:Int) (us:Array Value) (zz:Array Value):List SFr:=[frOf 33 Tryd.f33 [(1,i64 (.o h)),(2,ptr 0 (.l 0)),(4,ptr 1 (.l 0)),(6,ptr 2 (.l 0)),(7,slS 3 n),(8,i64 (.o i))] wcO_d0]
noncomputable def wcO_M (ws:Array Value) (h:Int) (n:Nat) (ks:Array Value) (i:Int) (us:Array Value) (zz:Array Value):SMem:=mkM 4 [(0,⟨.op ws,51,true⟩),(1,⟨.op zz,51,true⟩),(2,⟨.op us,51,true⟩),(3,⟨.pop ks,3,true⟩)]
noncomputable def wcO_n (ws:Array Value) (h:Int) (n:Nat) (ks:Array Value) (Q:Int→Array Value→Array Value→Prop) (fs:List SFr) (m:SMem):Prop:=(match frNth fs 0 with | some f0=>(match rdI f0 8 with | some i=>(match rdP f0 2 with | some p0=>(match rdP f0 4 with | some p1=>(match rdP f0 6 with | some p2=>(match rdSI f0 7 with | some p3=>(match rdA m p2 with | some us=>(match rdA m p1 with | some zz=>Q i us zz∧subOk 0 [(0,p0),(1,p1),(2,p2),(3,p3)] (wcO_F ws h n ks i us zz) (wcO_M ws h n ks i us zz) fs m | none=>False) | none=>False) | none=>False) | none=>False) | none=>False) | none=>False) | none=>False) | none=>False)
noncomputable def wcI_d0:List SIt:=sekF Tryd.f33 10
noncomputable def wcI_F (ws:Array Value) (h:Int) (n:Nat) (ks:Array Value) (i:Int) (k:Int) (c:Int) (us:Array Value) (zz:Array Value):List SFr:=[frOf 33 Tryd.f33 [(1,i64 (.o h)),(2,ptr 0 (.l 0)),(4,ptr 1 (.l 0)),(6,ptr 2 (.l 0)),(7,slS 3 n),(8,i64 (.o i)),(9,i64 (.o k)),(10,i64 (.o c))] wcI_d0]
noncomputable def wcI_M (ws:Array Value) (h:Int) (n:Nat) (ks:Array Value) (i:Int) (k:Int) (c:Int) (us:Array Value) (zz:Array Value):SMem:=mkM 4 [(0,⟨.op ws,51,true⟩),(1,⟨.op zz,51,true⟩),(2,⟨.op us,51,true⟩),(3,⟨.pop ks,3,true⟩)]
noncomputable def wcI_n (ws:Array Value) (h:Int) (n:Nat) (ks:Array Value) (Q:Int→Int→Int→Array Value→Array Value→Prop) (fs:List SFr) (m:SMem):Prop:=(match frNth fs 0 with | some f0=>(match rdI f0 8 with | some i=>(match rdI f0 9 with | some k=>(match rdI f0 10 with | some c=>(match rdP f0 2 with | some p0=>(match rdP f0 4 with | some p1=>(match rdP f0 6 with | some p2=>(match rdSI f0 7 with | some p3=>(match rdA m p2 with | some us=>(match rdA m p1 with | some zz=>Q i k c us zz∧subOk 0 [(0,p0),(1,p1),(2,p2),(3,p3)] (wcI_F ws h n ks i k c us zz) (wcI_M ws h n ks i k c us zz) fs m | none=>False) | none=>False) | none=>False) | none=>False) | none=>False) | none=>False) | none=>False) | none=>False) | none=>False) | none=>False)
noncomputable def wgL_d0:List SIt:=sekF Tryd.f34 8
noncomputable def wgL_F (ws:Array Value) (h:Int) (u:Int) (vs:Array Value) (e:Int) (n:Nat) (ks:Array Value) (i:Int) (zz:Array Value):List SFr:=[frOf 34 Tryd.f34 [(1,i64 (.o h)),(2,i64 (.o u)),(3,ptr 0 (.l 0)),(6,ptr 1 (.l 0)),(8,ptr 2 (.l 0)),(9,i64 (.o e)),(10,slS 3 n),(11,i64 (.o i))] wgL_d0]
noncomputable def wgL_M (ws:Array Value) (h:Int) (u:Int) (vs:Array Value) (e:Int) (n:Nat) (ks:Array Value) (i:Int) (zz:Array Value):SMem:=mkM 4 [(0,⟨.op ws,51,true⟩),(1,⟨.op zz,51,true⟩),(2,⟨.op vs,51,true⟩),(3,⟨.pop ks,3,true⟩)]
noncomputable def wgL_n (ws:Array Value) (h:Int) (u:Int) (vs:Array Value) (e:Int) (n:Nat) (ks:Array Value) (Q:Int→Array Value→Prop) (fs:List SFr) (m:SMem):Prop:=(match frNth fs 0 with | some f0=>(match rdI f0 11 with | some i=>(match rdP f0 3 with | some p0=>(match rdP f0 6 with | some p1=>(match rdP f0 8 with | some p2=>(match rdSI f0 10 with | some p3=>(match rdA m p1 with | some zz=>Q i zz∧subOk 0 [(0,p0),(1,p1),(2,p2),(3,p3)] (wgL_F ws h u vs e n ks i zz) (wgL_M ws h u vs e n ks i zz) fs m | none=>False) | none=>False) | none=>False) | none=>False) | none=>False) | none=>False) | none=>False)
noncomputable def wfL_d0:List SIt:=sekF Tryd.f31 3
noncomputable def wfL_F (h:Int) (n:Nat) (ks:Array Value) (i:Int) (us:Array Value) (zz:Array Value):List SFr:=[frOf 31 Tryd.f31 [(1,i64 (.o h)),(2,ptr 0 (.l 0)),(4,ptr 1 (.l 0)),(7,slS 2 n),(8,i64 (.o i))] wfL_d0]
noncomputable def wfL_M (h:Int) (n:Nat) (ks:Array Value) (i:Int) (us:Array Value) (zz:Array Value):SMem:=mkM 3 [(0,⟨.op us,51,true⟩),(1,⟨.op zz,51,true⟩),(2,⟨.pop ks,3,true⟩)]
noncomputable def wfL_n (h:Int) (n:Nat) (ks:Array Value) (Q:Int→Array Value→Array Value→Prop) (fs:List SFr) (m:SMem):Prop:=(match frNth fs 0 with | some f0=>(match rdI f0 8 with | some i=>(match rdP f0 2 with | some p0=>(match rdP f0 4 with | some p1=>(match rdSI f0 7 with | some p2=>(match rdA m p0 with | some us=>(match rdA m p1 with | some zz=>Q i us zz∧subOk 0 [(0,p0),(1,p1),(2,p2)] (wfL_F h n ks i us zz) (wfL_M h n ks i us zz) fs m | none=>False) | none=>False) | none=>False) | none=>False) | none=>False) | none=>False) | none=>False)
noncomputable def EJ5z (ts:Array Value):Env:=⟨Tryd.prog,fnOf,conJ5 ts,haltAt [31*1000+5]⟩
noncomputable def wcOI (ws:Array Value) (h:Int) (n:Nat) (ks:Array Value) (QO:Int→Array Value→Array Value→Prop) (QI:Int→Int→Int→Array Value→Array Value→Prop) (fs:List SFr) (m:SMem):Prop:=match Nat.beq (atR fs) (33*1000+6) with | true=>wcO_n ws h n ks QO fs m | false=>wcI_n ws h n ks QI fs m
theorem wdL_d0_ok (r:Nat→Option Nat):TodoOk r wdL_d0 wdL_d0:=TodoOk.it (by kernel_rfl)
theorem wcO_d0_ok (r:Nat→Option Nat):TodoOk r wcO_d0 wcO_d0:=TodoOk.it (by kernel_rfl)
theorem wcI_d0_ok (r:Nat→Option Nat):TodoOk r wcI_d0 wcI_d0:=TodoOk.it (by kernel_rfl)
theorem wgL_d0_ok (r:Nat→Option Nat):TodoOk r wgL_d0 wgL_d0:=TodoOk.it (by kernel_rfl)
theorem wfL_d0_ok (r:Nat→Option Nat):TodoOk r wfL_d0 wfL_d0:=TodoOk.it (by kernel_rfl)
theorem wdL_good {A:SV→SMem→Prop} {h:Int} {Q:Int→Array Value→Array Value→Prop} {fs:List SFr} {m:SMem} (H:∀ i us zz,Q i us zz→Good Tryd.prog A 0 (wdL_F h i us zz) (wdL_M h i us zz)) (hb:wdL_n h Q fs m):Good Tryd.prog A 0 fs m:=by
 unfold wdL_n at hb
 iterate 6 (split at hb;rotate_left;exact hb.elim)
 exact Good.of_sub hb.2 (H _ _ _ hb.1)
theorem wcO_good {A:SV→SMem→Prop} {ws:Array Value} {h:Int} {n:Nat} {ks:Array Value} {Q:Int→Array Value→Array Value→Prop} {fs:List SFr} {m:SMem} (H:∀ i us zz,Q i us zz→Good Tryd.prog A 0 (wcO_F ws h n ks i us zz) (wcO_M ws h n ks i us zz)) (hb:wcO_n ws h n ks Q fs m):Good Tryd.prog A 0 fs m:=by
 unfold wcO_n at hb
 iterate 8 (split at hb;rotate_left;exact hb.elim)
 exact Good.of_sub hb.2 (H _ _ _ hb.1)
theorem wcI_good {A:SV→SMem→Prop} {ws:Array Value} {h:Int} {n:Nat} {ks:Array Value} {Q:Int→Int→Int→Array Value→Array Value→Prop} {fs:List SFr} {m:SMem} (H:∀ i k c us zz,Q i k c us zz→Good Tryd.prog A 0 (wcI_F ws h n ks i k c us zz) (wcI_M ws h n ks i k c us zz)) (hb:wcI_n ws h n ks Q fs m):Good Tryd.prog A 0 fs m:=by
 unfold wcI_n at hb
 iterate 10 (split at hb;rotate_left;exact hb.elim)
 exact Good.of_sub hb.2 (H _ _ _ _ _ hb.1)
theorem wgL_good {A:SV→SMem→Prop} {ws:Array Value} {h:Int} {u:Int} {vs:Array Value} {e:Int} {n:Nat} {ks:Array Value} {Q:Int→Array Value→Prop} {fs:List SFr} {m:SMem} (H:∀ i zz,Q i zz→Good Tryd.prog A 0 (wgL_F ws h u vs e n ks i zz) (wgL_M ws h u vs e n ks i zz)) (hb:wgL_n ws h u vs e n ks Q fs m):Good Tryd.prog A 0 fs m:=by
 unfold wgL_n at hb
 iterate 7 (split at hb;rotate_left;exact hb.elim)
 exact Good.of_sub hb.2 (H _ _ hb.1)
theorem wfL_good {A:SV→SMem→Prop} {h:Int} {n:Nat} {ks:Array Value} {Q:Int→Array Value→Array Value→Prop} {fs:List SFr} {m:SMem} (H:∀ i us zz,Q i us zz→Good Tryd.prog A 0 (wfL_F h n ks i us zz) (wfL_M h n ks i us zz)) (hb:wfL_n h n ks Q fs m):Good Tryd.prog A 0 fs m:=by
 unfold wfL_n at hb
 iterate 7 (split at hb;rotate_left;exact hb.elim)
 exact Good.of_sub hb.2 (H _ _ _ hb.1)
end Go.Proofs.YtdopckcockgefaaDoor
