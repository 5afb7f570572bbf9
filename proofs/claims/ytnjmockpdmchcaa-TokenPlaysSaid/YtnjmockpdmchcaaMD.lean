/- Of token: the document's Lend: its contract, and that it does what the program's does. No condition. -/
import Derived.Test.YtnjmockpdmchcaaMC
import Derived.Test.YtnjmockpdmchcaaE1
import Derived.Test.YtnjmockpdmchcaaK15
import Derived.Test.YtnjmockpdmchcaaF1
set_option linter.unusedVariables false
set_option linter.unusedSimpArgs false
namespace Go.Proofs.Ytnjmockpdmchcaa
set_option maxRecDepth 100000
set_option linter.unusedSimpArgs false
set_option linter.unusedVariables false
section
variable {ts ws : Array Value} {r b t : Int} {mu : Bool} {a : Int}
structure SameT (ts ws : Array Value) : Prop where
  ok : TsOk ts
  w : WsOk ws
  c : CorrT ts ws
def lnW (ts ws : Array Value) (r b t : Int) (mu : Bool) (a : Int) : Array Value := putAt (putAt ws 0 (issW (rbT ws)).toList) (64 + sl (issueI (bkT ts)) * 5) [.int .i64 r, .int .i64 b, .int .i64 t, .bool mu, .int .i64 a]
def lendW (ts ws : Array Value) (r b t : Int) (mu : Bool) (a : Int) : Array Value := if lendOk ts r b t mu a = true then lnW ts ws r b t mu a else ws
theorem put_wt (hs : ws.size = 224) {q : Nat} (hq : q < 32) {l : List Value} (hl : l.length = 5) : (putAt ws (64 + q * 5) l).size = 224 ∧ rbT (putAt ws (64 + q * 5) l) = rbT ws ∧ ∀ i j, i < 32 → j < 5 → (putAt ws (64 + q * 5) l)[64 + i * 5 + j]? = if i = q then l[j]? else ws[64 + i * 5 + j]? := by
  have h1 : (putAt ws (64 + q * 5) l).size = 224 := by rw [putAt_size (by omega)]; exact hs
  refine ⟨h1, ?_, fun i j hi hj => ?_⟩
  · apply Array.ext_getElem?
    intro j
    unfold rbT
    by_cases c : j < 64
    · rw [ext_get (by omega) (by omega), ext_get (by omega) (by omega), putAt_out (by omega) (by omega)]
    · rw [Array.getElem?_eq_none (by rw [ext_size (by omega)]; omega), Array.getElem?_eq_none (by rw [ext_size (by omega)]; omega)]
  · by_cases e : i = q
    · rw [if_pos e, e, putAt_in (by omega) (by omega) (by omega)]
      congr 1
      omega
    · rw [if_neg e, putAt_out (by omega) (by omega)]
theorem lendOk_parts (h : lendOk ts r b t mu a = true) : mayE ts r b t mu a = 0 ∧ issueOk (bkT ts) = true ∧ slotI (issueI (bkT ts)) < 16 := by
  unfold lendOk at h
  simp only [Bool.and_eq_true, decide_eq_true_eq] at h
  exact h
theorem ln_facts (h : SameT ts ws) (hq : slotI (issueI (bkT ts)) < 16) : WsOk (lnW ts ws r b t mu a) ∧ rbT (lnW ts ws r b t mu a) = issW (rbT ws) ∧ ∀ i j, i < 32 → j < 5 → (lnW ts ws r b t mu a)[64 + i * 5 + j]? = if i = sl (issueI (bkT ts)) then [Value.int .i64 r, .int .i64 b, .int .i64 t, .bool mu, .int .i64 a][j]? else ws[64 + i * 5 + j]? := by
  have hib := iss_rb h.w.rb
  obtain ⟨p1, p2, p3⟩ := put_rb (rb := issW (rbT ws)) h.w.sz hib.sz
  have hi0 := (issue_in h.ok).2
  have hsl : sl (issueI (bkT ts)) < 32 := by unfold sl; omega
  obtain ⟨q1, q2, q3⟩ := put_wt (q := sl (issueI (bkT ts))) (l := [.int .i64 r, .int .i64 b, .int .i64 t, .bool mu, .int .i64 a]) p1 hsl rfl
  have e2 : rbT (lnW ts ws r b t mu a) = issW (rbT ws) := q2.trans p2
  have e3 : ∀ i j, i < 32 → j < 5 → (lnW ts ws r b t mu a)[64 + i * 5 + j]? = if i = sl (issueI (bkT ts)) then [Value.int .i64 r, .int .i64 b, .int .i64 t, .bool mu, .int .i64 a][j]? else ws[64 + i * 5 + j]? := fun i j hi hj => by
    have := q3 i j hi hj
    rw [p3 _ (by omega)] at this
    exact this
  have e0 : ∀ i, i < 32 → (lnW ts ws r b t mu a)[64 + i * 5]? = if i = sl (issueI (bkT ts)) then some (Value.int .i64 r) else ws[64 + i * 5]? := fun i hi => e3 i 0 hi (by decide)
  refine ⟨⟨q1, by rw [e2]; exact hib, fun i hi => ?_, fun i hi => ?_, fun i hi => ?_, fun i hi => ?_, fun i hi => ?_⟩, e2, e3⟩
  · by_cases e : i = sl (issueI (bkT ts))
    · exact isI_of ((e0 i hi).trans (if_pos e))
    · have := h.w.c0 i hi
      unfold IsInt intAt at *
      rw [e0 i hi, if_neg e]; exact this
  · by_cases e : i = sl (issueI (bkT ts))
    · exact isI_of ((e3 i 1 hi (by decide)).trans (if_pos e))
    · have := h.w.c1 i hi
      unfold IsInt intAt at *
      rw [e3 i 1 hi (by decide), if_neg e]; exact this
  · by_cases e : i = sl (issueI (bkT ts))
    · exact isI_of ((e3 i 2 hi (by decide)).trans (if_pos e))
    · have := h.w.c2 i hi
      unfold IsInt intAt at *
      rw [e3 i 2 hi (by decide), if_neg e]; exact this
  · by_cases e : i = sl (issueI (bkT ts))
    · exact isBo_of ((e3 i 3 hi (by decide)).trans (if_pos e))
    · have := h.w.c3 i hi
      unfold IsBool boolAt at *
      rw [e3 i 3 hi (by decide), if_neg e]; exact this
  · by_cases e : i = sl (issueI (bkT ts))
    · exact isI_of ((e3 i 4 hi (by decide)).trans (if_pos e))
    · have := h.w.c4 i hi
      unfold IsInt intAt at *
      rw [e3 i 4 hi (by decide), if_neg e]; exact this
theorem same_lend (hi : Inv ts) (h : SameT ts ws) (hr : inH r) (hb : 0 ≤ b ∧ b ≤ 255) (ht : 0 ≤ t ∧ t ≤ 255) (ha : inH a) : SameT (lendT ts r b t mu a) (lendW ts ws r b t mu a) := by
  have hok := (Inv.lend (mu := mu) hi hr hb ht ha).ok
  cases hk : lendOk ts r b t mu a with
  | false =>
    have e1 : lendT ts r b t mu a = ts := by unfold lendT; rw [hk]; rfl
    have e2 : lendW ts ws r b t mu a = ws := by unfold lendW; rw [hk]; rfl
    rw [e1, e2]
    exact h
  | true =>
    obtain ⟨k1, k2, k3⟩ := lendOk_parts hk
    have e1 : lendT ts r b t mu a = newT ts r b t mu a := by unfold lendT; rw [if_pos hk]
    have e2 : lendW ts ws r b t mu a = lnW ts ws r b t mu a := by unfold lendW; rw [if_pos hk]
    rw [e1] at hok ⊢
    rw [e2]
    obtain ⟨w1, w2, w3⟩ := ln_facts (r := r) (b := b) (t := t) (mu := mu) (a := a) h k3
    have hi0 := (issue_in h.ok).2
    have hsl : sl (issueI (bkT ts)) < 16 := by unfold sl; omega
    obtain ⟨p1, p2, p3⟩ := put_bk (bs := issueB (bkT ts)) h.ok.sz (issue_bk h.ok.bk).sz
    obtain ⟨q1, q2, q3⟩ := put_tk (q := sl (issueI (bkT ts))) (l := [.int .u32 r, .int .u8 b, .int .u8 t, .bool mu, .int .u32 a]) p1 hsl rfl
    have f2 : bkT (newT ts r b t mu a) = issueB (bkT ts) := q2.trans p2
    have f3 : ∀ i, i < 16 → tk5 (newT ts r b t mu a) i = if i = sl (issueI (bkT ts)) then #[.int .u32 r, .int .u8 b, .int .u8 t, .bool mu, .int .u32 a] else tk5 ts i := fun i hi => by
      show tk5 (putAt _ _ _) i = _
      rw [q3 i hi]
      split
      · rfl
      · exact p3 i hi
    refine ⟨hok, w1, by rw [f2, w2]; exact (issue_rel h.ok.bk h.w.rb h.c.b).2.1, fun i hi hk1 => ?_⟩
    have w30 : (lnW ts ws r b t mu a)[64 + i * 5]? = if i = sl (issueI (bkT ts)) then some (Value.int .i64 r) else ws[64 + i * 5]? := w3 i 0 (by omega) (by decide)
    by_cases e : i = sl (issueI (bkT ts))
    · have ft : tk5 (newT ts r b t mu a) i = #[.int .u32 r, .int .u8 b, .int .u8 t, .bool mu, .int .u32 a] := by rw [f3 i hi, if_pos e]
      have c0 : (lnW ts ws r b t mu a)[64 + i * 5 + 0]? = some (Value.int .i64 r) := w30.trans (if_pos e)
      have c1 : (lnW ts ws r b t mu a)[64 + i * 5 + 1]? = some (Value.int .i64 b) := (w3 i 1 (by omega) (by decide)).trans (if_pos e)
      have c2 : (lnW ts ws r b t mu a)[64 + i * 5 + 2]? = some (Value.int .i64 t) := (w3 i 2 (by omega) (by decide)).trans (if_pos e)
      have c3 : (lnW ts ws r b t mu a)[64 + i * 5 + 3]? = some (Value.bool mu) := (w3 i 3 (by omega) (by decide)).trans (if_pos e)
      have c4 : (lnW ts ws r b t mu a)[64 + i * 5 + 4]? = some (Value.int .i64 a) := (w3 i 4 (by omega) (by decide)).trans (if_pos e)
      have g0 : tR (newT ts r b t mu a) i = r := by unfold tR; rw [ft]; rfl
      have g1 : tB (newT ts r b t mu a) i = b := by unfold tB; rw [ft]; rfl
      have g2 : tT (newT ts r b t mu a) i = t := by unfold tT; rw [ft]; rfl
      have g3 : tM (newT ts r b t mu a) i = mu := by unfold tM; rw [ft]; rfl
      have g4 : tA (newT ts r b t mu a) i = a := by unfold tA; rw [ft]; rfl
      rw [g0, g1, g2, g3, g4]
      unfold wC wM
      exact ⟨intAt_of c0, intAt_of c1, intAt_of c2, boolAt_of c3, intAt_of c4⟩
    · have ft : tk5 (newT ts r b t mu a) i = tk5 ts i := by rw [f3 i hi, if_neg e]
      have hk0 : kindAt (bkT ts) i = 1 := by
        rw [f2] at hk1
        rcases issue_cases (bs := bkT ts) with ⟨_, e1, _⟩ | ⟨j, h1, _, e1, e4, _⟩
        · rw [e1] at hk1; exact hk1
        · rw [e1, kind_set h.ok.bk.sz h1] at hk1
          have : sl (issueI (bkT ts)) = j := by rw [e4]; exact slotI_name h1 (h.ok.bk.ra j h1)
          rw [if_neg (by omega)] at hk1
          exact hk1
      have hwc : ∀ j, j < 5 → (lnW ts ws r b t mu a)[64 + i * 5 + j]? = ws[64 + i * 5 + j]? := fun j hj => (w3 i j (by omega) hj).trans (if_neg e)
      have hwi : ∀ j, j < 5 → wC (lnW ts ws r b t mu a) i j = wC ws i j := fun j hj => by unfold wC intAt; rw [hwc j hj]
      have hwb : wM (lnW ts ws r b t mu a) i = wM ws i := by unfold wM boolAt; rw [hwc 3 (by decide)]
      obtain ⟨t0, t1, t2, t3, t4⟩ := h.c.t i hi hk0
      rw [hwi 0 (by decide), hwi 1 (by decide), hwi 2 (by decide), hwi 4 (by decide), hwb]
      unfold tR tB tT tM tA
      rw [ft]
      exact ⟨t0, t1, t2, t3, t4⟩
theorem gV11_ok (h : SameT ts ws) (hm : mayE ts r b t mu a = 0) {zz : Array Value} (hz : zz.size = 224) : Good Try.prog (retOk 0 [] (lnS (lendW ts ws r b t mu a) (lendI ts r b t mu a) (lendE ts r b t mu a)) e0M) 0 (gV11_F ws r b t mu a zz) (gV11_M ws r b t mu a zz) := by
  refine past_vc EGv_ok 1000 (ld11 ws r b t mu a zz (lendW ts ws r b t mu a) (lendI ts r b t mu a) (lendE ts r b t mu a)) ?_ (fun _ _ h => h) (fun fs m hb => hb.elim)
  have hs := h.w.sz
  have hrb : RbOk (ws.extract 0 64) := h.w.rb
  have hle : 64 ≤ ws.size := by omega
  have h64 : (64 : Nat) ≤ 224 := by decide
  have hib := iss_rb h.w.rb
  obtain ⟨k1, k2, k3⟩ := issue_rel h.ok.bk h.w.rb h.c.b
  have g1 : issWI (ws.extract 0 64) = issueI (bkT ts) := k3
  have g2 : (issW (ws.extract 0 64)).size = 64 := hib.sz
  have g3 : RbOk (issW (ws.extract 0 64)) := hib
  obtain ⟨hi1, hi2⟩ := issue_in h.ok
  cases ho : issueOk (bkT ts) with
  | false =>
    have e0 : issueI (bkT ts) = 0 := by
      rcases issue_cases (bs := bkT ts) with ⟨_, _, e, _⟩ | ⟨j, _, _, _, _, e, _⟩
      · exact e
      · rw [e] at ho; cases ho
    have hk : lendOk ts r b t mu a = false := by unfold lendOk; rw [ho]; simp
    have e1 : lendW ts ws r b t mu a = ws := by unfold lendW; rw [hk]; rfl
    have e2 : lendI ts r b t mu a = 0 := by unfold lendI; rw [hk]; rfl
    have e3 : lendE ts r b t mu a = 7 := by unfold lendE; rw [if_pos hm, hk]; rfl
    have d : (issueI (bkT ts) == 0) = true := by rw [e0]; rfl
    simp only [g1, g2, d, e1, e2, e3, hs, hz, hle, h64, beqF, Bool.not_true, Bool.not_false, true_implies, Bool.true_eq_false, Bool.false_eq_true, false_implies, and_true, true_and]
    exact hrb
  | true =>
    have hi3 : 1 ≤ issueI (bkT ts) := by
      rcases issue_cases (bs := bkT ts) with ⟨_, _, _, e⟩ | ⟨j, h1, _, _, e4, _⟩
      · rw [e] at ho; cases ho
      · rw [e4]
        have := h.ok.bk.ra j h1
        unfold nameI; omega
    have d : (issueI (bkT ts) == 0) = false := by
      rw [beq_eq_false_iff_ne]; omega
    have hg : goodB (issueB (bkT ts)) (issueI (bkT ts)) = true := by rw [issue_good h.ok.bk, ho]; simp
    have sw : slotW (issW (ws.extract 0 64)) (issueI (bkT ts)) = ((sl (issueI (bkT ts)) : Nat) : Int) := by
      have := slot_rel (issue_bk h.ok.bk) k2 (issueI (bkT ts))
      rw [if_pos hg] at this
      exact this
    have es : ((sl (issueI (bkT ts)) : Nat) : Int) = slotI (issueI (bkT ts)) := by unfold sl; omega
    have hlt := (slotI_lt hi1).2
    by_cases c : slotI (issueI (bkT ts)) < 16
    · have hk : lendOk ts r b t mu a = true := by unfold lendOk; rw [ho, hm, decide_eq_true c]; rfl
      have e1 : lendW ts ws r b t mu a = lnW ts ws r b t mu a := by unfold lendW; rw [if_pos hk]
      have e2 : lendI ts r b t mu a = issueI (bkT ts) := by unfold lendI; rw [if_pos hk]
      have e3 : lendE ts r b t mu a = 0 := by unfold lendE; rw [if_pos hm, if_pos hk]
      have d1 : decide (((sl (issueI (bkT ts)) : Nat) : Int) > 15) = false := decide_eq_false (by omega)
      have w1 := (ln_facts (r := r) (b := b) (t := t) (mu := mu) (a := a) h c).1.sz
      have e4 : putAt (putAt ws 0 (issW (ws.extract 0 64)).toList) (64 + sl (issueI (bkT ts)) * 5) [Value.int .i64 r, .int .i64 b, .int .i64 t, .bool mu, .int .i64 a] = lnW ts ws r b t mu a := rfl
      have h5 : List.length [Value.int .i64 r, Value.int .i64 b, Value.int .i64 t, Value.bool mu, Value.int .i64 a] = 5 := rfl
      have p1 : (putAt ws 0 (issW (ws.extract 0 64)).toList).size = 224 := (put_rb h.w.sz hib.sz).1
      have c1 : (0 ≤ ((sl (issueI (bkT ts)) : Nat) : Int) ∧ ((sl (issueI (bkT ts)) : Nat) : Int) < 32) := ⟨by omega, by omega⟩
      have c2 : 64 + sl (issueI (bkT ts)) * 5 + 5 ≤ 224 := by omega
      simp only [g1, sw, d1]
      simp only [Int.toNat_natCast, g2, g3, d, d1, p1, e4, h5, w1, e1, e2, e3, c1, c2, hs, hz, hle, h64, hrb, beqF, Bool.not_true, Bool.not_false, true_implies, Bool.true_eq_false, Bool.false_eq_true, false_implies, and_true, true_and]
    · have hk : lendOk ts r b t mu a = false := by unfold lendOk; rw [decide_eq_false c]; simp
      have e1 : lendW ts ws r b t mu a = ws := by unfold lendW; rw [hk]; rfl
      have e2 : lendI ts r b t mu a = 0 := by unfold lendI; rw [hk]; rfl
      have e3 : lendE ts r b t mu a = 7 := by unfold lendE; rw [if_pos hm, hk]; rfl
      have d1 : decide (((sl (issueI (bkT ts)) : Nat) : Int) > 15) = true := decide_eq_true (by omega)
      simp only [g1, sw, d1]
      simp only [g2, g3, d, e1, e2, e3, hs, hz, hle, h64, hrb, beqF, Bool.not_true, Bool.not_false, true_implies, Bool.true_eq_false, Bool.false_eq_true, false_implies, and_true, true_and]
theorem lend_bad {E : Int} (hm : mayE ts r b t mu a = E) (hE : E ≠ 0) : lendW ts ws r b t mu a = ws ∧ lendI ts r b t mu a = 0 ∧ lendE ts r b t mu a = E := by
  have hk : lendOk ts r b t mu a = false := by unfold lendOk; rw [decide_eq_false (by rw [hm]; exact hE)]; rfl
  refine ⟨by unfold lendW; rw [hk]; rfl, by unfold lendI; rw [hk]; rfl, by unfold lendE; rw [if_neg (by rw [hm]; exact hE)]; exact hm⟩
theorem gV9_ok (h : SameT ts ws) (h1 : goodT ts a = true) (h2 : mayBad r b t = false) (h3 : mayUp ts r b mu a = false) {zz : Array Value} (hz : zz.size = 224) : Good Try.prog (retOk 0 [] (lnS (lendW ts ws r b t mu a) (lendI ts r b t mu a) (lendE ts r b t mu a)) e0M) 0 (gV9_F ws r b t mu a zz) (gV9_M ws r b t mu a zz) := by
  refine past_vc EGv_ok 1000 (ld9 ws r b t mu a zz (lendW ts ws r b t mu a) (lendI ts r b t mu a) (lendE ts r b t mu a) (fun z => z = zz ∧ freeB ts r a (!mu) = true)) ?_ (fun _ _ h => h)
    (fun fs m hb => gV11_good (fun z ⟨e, e2⟩ => by rw [e]; exact gV11_ok h (by unfold mayE; rw [h1, h2, h3, e2]; rfl) hz) hb)
  have hs := h.w.sz
  have hw := h.w
  have e1 : readsW ws r a = freeB ts r a true := by rw [reads_t h.ok h.c]; unfold readsB; rw [h1]; rfl
  have e2 : writesW ws r a = freeB ts r a false := by rw [writes_t h.ok h.c]; unfold writesB; rw [h1]; rfl
  have bad : freeB ts r a (!mu) = false → lendW ts ws r b t mu a = ws ∧ lendI ts r b t mu a = 0 ∧ lendE ts r b t mu a = 5 := fun e => lend_bad (by unfold mayE; rw [h1, h2, h3, e]; rfl) (by decide)
  have hmono : freeB ts r a false = true → freeB ts r a true = true := fun e => by
    rw [free_iff h.ok] at e ⊢
    intro y hy q1 q2
    have := e y hy q1 q2
    simp only [Bool.not_false, Bool.or_true] at this
    cases this
  cases mu with
  | false =>
    cases c : freeB ts r a true with
    | true =>
      simp only [e1, c, hs, beqT, beqF, Bool.not_true, Bool.not_false, true_implies, Bool.true_eq_false, Bool.false_eq_true, false_implies, and_true, true_and, gV11_d0_ok]
      exact hw
    | false =>
      obtain ⟨b1, b2, b3⟩ := bad c
      simp only [e1, c, b1, b2, b3, hs, hz, beqT, beqF, Bool.not_true, Bool.not_false, true_implies, Bool.true_eq_false, Bool.false_eq_true, false_implies, and_true, true_and, gV11_d0_ok]
      exact hw
  | true =>
    cases c : freeB ts r a false with
    | true =>
      have c1 := hmono c
      simp only [e1, e2, c, c1, hs, beqT, beqF, Bool.not_true, Bool.not_false, true_implies, Bool.true_eq_false, Bool.false_eq_true, false_implies, and_true, true_and, gV11_d0_ok]
      repeat' first | exact hw | apply And.intro
    | false =>
      obtain ⟨b1, b2, b3⟩ := bad c
      cases c1 : freeB ts r a true
      all_goals
        simp only [e1, e2, c, c1, b1, b2, b3, hs, hz, beqT, beqF, Bool.not_true, Bool.not_false, true_implies, Bool.true_eq_false, Bool.false_eq_true, false_implies, and_true, true_and, gV11_d0_ok]
        repeat' first | exact hw | apply And.intro
theorem gV5_ok (h : SameT ts ws) (h1 : goodT ts a = true) (h2 : mayBad r b t = false) {zz : Array Value} (hz : zz.size = 224) : Good Try.prog (retOk 0 [] (lnS (lendW ts ws r b t mu a) (lendI ts r b t mu a) (lendE ts r b t mu a)) e0M) 0 (gV5_F ws r b t mu a zz) (gV5_M ws r b t mu a zz) := by
  refine past_vc EGv_ok 1000 (ld5 ws r b t mu a zz (lendW ts ws r b t mu a) (lendI ts r b t mu a) (lendE ts r b t mu a) (fun z => z = zz ∧ mayUp ts r b mu a = false)) ?_ (fun _ _ h => h)
    (fun fs m hb => gV9_good (fun z ⟨e, e2⟩ => by rw [e]; exact gV9_ok h h1 h2 e2 hz) hb)
  have hs := h.w.sz
  have hle : 64 ≤ ws.size := by omega
  have h64 : (64 : Nat) ≤ 224 := by decide
  have hrb : RbOk (ws.extract 0 64) := h.w.rb
  have bad : mayUp ts r b mu a = true → lendW ts ws r b t mu a = ws ∧ lendI ts r b t mu a = 0 ∧ lendE ts r b t mu a = 12 := fun e => lend_bad (by unfold mayE; rw [h1, h2, e]; rfl) (by decide)
  by_cases ha : a = 0
  · have d : (a != 0) = false := by rw [ha]; rfl
    have e0 : mayUp ts r b mu a = false := by unfold mayUp; rw [ha, zero_bad]; rfl
    simp only [d, e0, true_implies, Bool.true_eq_false, Bool.false_eq_true, false_implies, and_true, true_and, gV9_d0_ok]
  · have d : (a != 0) = true := bne_iff_ne.2 ha
    have hg : goodB (bkT ts) a = true := by
      unfold goodT at h1
      rw [beq_eq_false_iff_ne.2 ha, Bool.false_or] at h1
      exact h1
    obtain ⟨s1, s2, s3, s4, s5, s6, s7, s8⟩ := good_slot h.ok hg
    have sw : slotW (ws.extract 0 64) a = ((sl a : Nat) : Int) := by
      have := slot_t h.ok h.c a
      rw [if_pos hg] at this
      exact this
    obtain ⟨t0, t1, t2, t3, t4⟩ := h.c.t _ s3 s5
    have x0 := h.w.c0 (sl a) (by omega)
    have x1 := h.w.c1 (sl a) (by omega)
    have x2 := h.w.c2 (sl a) (by omega)
    have x3 := h.w.c3 (sl a) (by omega)
    have x4 := h.w.c4 (sl a) (by omega)
    have w0 : intAt ws (64 + sl a * 5) = tR ts (sl a) := t0
    have w2 : intAt ws (64 + sl a * 5 + 2) = tT ts (sl a) := t2
    have w3 : boolAt ws (64 + sl a * 5 + 3) = tM ts (sl a) := t3
    have c1 : (0 ≤ ((sl a : Nat) : Int) ∧ ((sl a : Nat) : Int) < 32) := ⟨by omega, by omega⟩
    have hu : mayUp ts r b mu a = ((tR ts (sl a) != r) || ((tT ts (sl a) != b) || (mu && !tM ts (sl a)))) := by unfold mayUp; rw [hg]; rfl
    simp only [d, sw, Int.toNat_natCast, x0, x1, x2, x3, x4, w0, w2, w3, c1, hle, h64, hrb, beqT, beqF, true_implies, Bool.true_eq_false, false_implies, and_true, true_and, gV9_d0_ok]
    cases q1 : (tR ts (sl a) != r) <;> cases q2 : (tT ts (sl a) != b) <;> cases mu <;> cases q3 : tM ts (sl a)
    all_goals
      rw [q1, q2, q3] at hu
      simp only [Bool.true_or, Bool.false_or, Bool.or_true, Bool.or_false, Bool.true_and, Bool.false_and, Bool.not_true, Bool.not_false] at hu
      first
        | (simp only [hu, Bool.not_true, Bool.not_false, true_implies, Bool.true_eq_false, Bool.false_eq_true, false_implies, and_true, true_and]; done)
        | (obtain ⟨b1, b2, b3⟩ := bad hu
           simp only [b1, b2, b3, hs, hz, Bool.not_true, Bool.not_false, true_implies, Bool.true_eq_false, Bool.false_eq_true, false_implies, and_true, true_and])
theorem gV3_ok (h : SameT ts ws) (h1 : goodT ts a = true) {zz : Array Value} (hz : zz.size = 224) : Good Try.prog (retOk 0 [] (lnS (lendW ts ws r b t mu a) (lendI ts r b t mu a) (lendE ts r b t mu a)) e0M) 0 (gV3_F ws r b t mu a zz) (gV3_M ws r b t mu a zz) := by
  refine past_vc EGv_ok 1000 (ld3 ws r b t mu a zz (lendW ts ws r b t mu a) (lendI ts r b t mu a) (lendE ts r b t mu a) (fun z => z = zz ∧ mayBad r b t = false)) ?_ (fun _ _ h => h)
    (fun fs m hb => gV5_good (fun z ⟨e, e2⟩ => by rw [e]; exact gV5_ok h h1 e2 hz) hb)
  have hs := h.w.sz
  have bad : mayBad r b t = true → lendW ts ws r b t mu a = ws ∧ lendI ts r b t mu a = 0 ∧ lendE ts r b t mu a = 2 := fun e => lend_bad (by unfold mayE; rw [h1, e]; rfl) (by decide)
  have d1 : decide (b > 7) = decide (b ≥ 8) := by congr 1
  have d2 : decide (t > 7) = decide (t ≥ 8) := by congr 1
  have hu : mayBad r b t = (decide (b ≥ 8) || (decide (t ≥ 8) || ((b == t) || (r == 0)))) := rfl
  simp only [d1, d2, beqF, gV5_d0_ok]
  cases q1 : decide (b ≥ 8) <;> cases q2 : decide (t ≥ 8) <;> cases q3 : (b == t) <;> cases q4 : (r == 0)
  all_goals
    rw [q1, q2, q3, q4] at hu
    simp only [Bool.true_or, Bool.false_or, Bool.or_true, Bool.or_false] at hu
    first
      | (simp only [hu, Bool.not_true, Bool.not_false, true_implies, Bool.true_eq_false, Bool.false_eq_true, false_implies, and_true, true_and]; done)
      | (obtain ⟨b1, b2, b3⟩ := bad hu
         simp only [b1, b2, b3, hs, hz, Bool.not_true, Bool.not_false, true_implies, Bool.true_eq_false, Bool.false_eq_true, false_implies, and_true, true_and])
theorem rlend_con (r b t : Int) (mu : Bool) (a : Int) (m : SMem) : Con E0 13 [wsS ws, tkW r b t mu a] m (needs [SameT ts ws] (.ret (lnS (lendW ts ws r b t mu a) (lendI ts r b t mu a) (lendE ts r b t mu a)) m)) := by
  refine Con.pure E0_ok (by kernel_rfl : E0.fn 13 = some Try.f13) (by kernel_rfl : Try.f13.body = some (Try.f13.body.getD .skip)) (by kernel_rfl) (by kernel_rfl) fun hq => ?_
  have h : SameT ts ws := hq _ (by simp)
  refine (Good.ret [] (run_vc EGv_ok 1000 (ld0 ws r b t mu a (lendW ts ws r b t mu a) (lendI ts r b t mu a) (lendE ts r b t mu a) (fun z => z.size = 224 ∧ goodT ts a = true)) ?_ (fun s m h => h) fun fs m hb => gV3_good (fun z ⟨e, e2⟩ => gV3_ok h e2 e) hb)).mono fun _ _ h => h.1
  have hs := h.w.sz
  have hle : 64 ≤ ws.size := by omega
  have h64 : (64 : Nat) ≤ 224 := by decide
  have hrb : RbOk (ws.extract 0 64) := h.w.rb
  have sw := slot_t h.ok h.c a
  have se : slotW (ws.extract 0 64) a = slotW (rbT ws) a := rfl
  have bad : goodT ts a = false → lendW ts ws r b t mu a = ws ∧ lendI ts r b t mu a = 0 ∧ lendE ts r b t mu a = 4 := fun e => lend_bad (by unfold mayE; rw [e]; rfl) (by decide)
  by_cases ha : a = 0
  · have d : (a != 0) = false := by rw [ha]; rfl
    have e0 : goodT ts a = true := by unfold goodT; rw [ha]; rfl
    simp only [d, e0, beqT, true_implies, Bool.true_eq_false, Bool.false_eq_true, false_implies, and_true, true_and, gV3_d0_ok]
    rfl
  · have d : (a != 0) = true := bne_iff_ne.2 ha
    have hgt : goodT ts a = goodB (bkT ts) a := by unfold goodT; rw [beq_eq_false_iff_ne.2 ha, Bool.false_or]
    cases hg : goodB (bkT ts) a with
    | true =>
      rw [hg, if_pos rfl] at sw
      have d1 : decide (slotW (ws.extract 0 64) a < 0) = false := decide_eq_false (by rw [se, sw]; omega)
      simp only [d, d1, hgt, hg, hle, h64, hrb, beqT, true_implies, Bool.true_eq_false, Bool.false_eq_true, false_implies, and_true, true_and, gV3_d0_ok]
      rfl
    | false =>
      rw [hg, if_neg (by simp)] at sw
      have d1 : decide (slotW (ws.extract 0 64) a < 0) = true := decide_eq_true (by rw [se, sw]; decide)
      obtain ⟨b1, b2, b3⟩ := bad (hgt.trans hg)
      simp only [d, d1, b1, b2, b3, hs, hle, h64, hrb, beqT, true_implies, Bool.true_eq_false, Bool.false_eq_true, false_implies, and_true, true_and, gV3_d0_ok]
end
end Go.Proofs.Ytnjmockpdmchcaa
/- Of token: the document's Return: its contract; that what is given back, or cleared, is the same. No condition. -/
namespace Go.Proofs.Ytnjmockpdmchcaa
set_option maxRecDepth 100000
set_option linter.unusedSimpArgs false
set_option linter.unusedVariables false
section
variable {ts ws : Array Value} {x : Int}
theorem outW_app {l q : List Int} : ∀ i, i ≤ l.length → outW ws (l ++ q) i = outW ws l i
  | 0, _ => rfl
  | i + 1, h => by
    show vdW (outW ws (l ++ q) i) ((l ++ q).getD i 0) = vdW (outW ws l i) (l.getD i 0)
    rw [outW_app i (by omega), List.getD_eq_getElem?_getD, List.getD_eq_getElem?_getD, List.getElem?_append_left (by omega)]
theorem outW_snoc {l : List Int} {y : Int} : outW ws (l ++ [y]) (l ++ [y]).length = vdW (outW ws l l.length) y := by
  rw [List.length_append]
  show vdW (outW ws (l ++ [y]) l.length) ((l ++ [y]).getD l.length 0) = _
  rw [outW_app l.length (Nat.le_refl _), List.getD_eq_getElem?_getD, List.getElem?_append_right (Nat.le_refl _), Nat.sub_self]
  rfl
theorem same_void (h : SameT ts ws) {y : Int} (hg : gd ts y) : SameT (clrT ts y) (vdW ws y) := by
  obtain ⟨s1, s2, s3, s4, s5, s6, s7, s8⟩ := good_slot h.ok hg
  obtain ⟨c1, c2, c3⟩ := clr_facts h.ok s7 s3
  obtain ⟨v1, v2, v3⟩ := vd_facts h.w y
  refine ⟨c1, v1, by rw [c2, v2]; exact (void_rel h.ok.bk h.w.rb h.c.b y).2.1, fun i hi hk => ?_⟩
  rw [c2] at hk
  have hk2 : i ≠ sl y ∧ kindAt (bkT ts) i = 1 := by
    rcases void_cases h.ok.bk y with ⟨e, _⟩ | ⟨j, hj, hkj, ey, _, e⟩
    · rw [hg] at e; cases e
    · rw [e, void_kind h.ok.bk.sz hj] at hk
      have : sl y = j := by rw [ey]; exact slotI_name hj (h.ok.bk.ra j hj)
      by_cases q : i = j
      · rw [if_pos q] at hk
        split at hk <;> cases hk
      · rw [if_neg q] at hk
        exact ⟨by omega, hk⟩
  have ft : tk5 (clrT ts y) i = tk5 ts i := by rw [c3 i hi, if_neg hk2.1]
  obtain ⟨t0, t1, t2, t3, t4⟩ := h.c.t i hi hk2.2
  rw [wC_same v3, wC_same v3, wC_same v3, wC_same v3, wM_same v3]
  unfold tR tB tT tM tA
  rw [ft]
  exact ⟨t0, t1, t2, t3, t4⟩
theorem same_out (h : SameT ts ws) {l : List Int} (hl : HsOk l) (hg : ∀ x ∈ l, gd ts x) (hn : l.Nodup) : ∀ i, i ≤ l.length → SameT (outT ts l i) (outW ws l i)
  | 0, _ => h
  | i + 1, hi => by
    have ih := same_out h hl hg hn i (by omega)
    have hi' : i < l.length := by omega
    have e : l.getD i 0 = l[i] := by rw [List.getD_eq_getElem?_getD, List.getElem?_eq_getElem hi']; rfl
    have hm : l.getD i 0 ∈ l := by rw [e]; exact List.getElem_mem _
    refine same_void ih (((out_facts h.ok hl hg i (by omega)).1 _).2 ⟨hg _ hm, fun hc => ?_⟩)
    rw [e, List.mem_take_iff_getElem] at hc
    obtain ⟨j, hj, e2⟩ := hc
    exact List.pairwise_iff_getElem.1 hn j i (by omega) hi' (by omega) e2
theorem thP_t (h : SameT ts ws) {r t : Int} {i : Nat} (hi : i < 32) : thP ws r t i = (decide (kindAt (bkT ts) i = 1) && ((decide (r < 0) || (tR ts i == r)) && (decide (t < 0) || (tT ts i == t)))) := by
  have e1 : (isW (rbT ws) i == 1) = decide (kindAt (bkT ts) i = 1) := by rw [(h.c.b i hi).2]; rfl
  rw [thP_eq, e1]
  by_cases c : kindAt (bkT ts) i = 1
  · have h16 : i < 16 := by
      rcases Nat.lt_or_ge i 16 with q | q
      · exact q
      · have := h.ok.hi i q hi; omega
    obtain ⟨t0, _, t2, _, _⟩ := h.c.t i h16 c
    rw [t0, t2]
  · rw [decide_eq_false c]; rfl
theorem those_t (h : SameT ts ws) {r t : Int} {p : Nat → Bool} (hp : ∀ i, i < 16 → p i = ((decide (r < 0) || (tR ts i == r)) && (decide (t < 0) || (tT ts i == t)))) : thoseW ws r t 32 = whL (bkT ts) p 16 := by
  have k1 : ∀ i, i ≤ 16 → thoseW ws r t i = whL (bkT ts) p i := by
    intro i
    induction i with
    | zero => intro _; rfl
    | succ i ih =>
      intro hi
      rw [thoseW_succ, whL_succ, ih (by omega), thP_t h (by omega), hp i (by omega), (h.c.b i (by omega)).1]
      simp only [Bool.and_eq_true, decide_eq_true_eq]
  have k2 : ∀ i, i ≤ 16 → thoseW ws r t (16 + i) = thoseW ws r t 16 := by
    intro i
    induction i with
    | zero => intro _; rfl
    | succ i ih =>
      intro hi
      rw [← Nat.add_assoc, thoseW_succ, thP_t h (by omega), h.ok.hi (16 + i) (by omega) (by omega), ih (by omega)]
      rfl
  rw [show (32 : Nat) = 16 + 16 from rfl, k2 16 (by omega), k1 16 (by omega)]
theorem those_on (h : SameT ts ws) {r : Int} (hr : 0 ≤ r) : thoseW ws r (-1) 32 = onL ts r := by
  refine those_t h fun i hi => ?_
  unfold aP
  rw [decide_eq_false (by omega : ¬ r < 0), show decide ((-1 : Int) < 0) = true from rfl, Bool.false_or, Bool.true_or, Bool.and_true]
  rfl
def ofL (ts : Array Value) (t : Int) : List Int := whL (bkT ts) (bP ts t) 16
theorem those_of (h : SameT ts ws) {t : Int} (ht : 0 ≤ t) : thoseW ws (-1) t 32 = ofL ts t := by
  refine those_t h fun i hi => ?_
  unfold bP
  rw [decide_eq_false (by omega : ¬ t < 0), show decide ((-1 : Int) < 0) = true from rfl, Bool.false_or, Bool.true_or, Bool.true_and]
  rfl
theorem same_clear (h : SameT ts ws) {r : Int} (hr : 0 ≤ r) : SameT (clearT ts r) (clearW ws r) := by
  unfold clearT clearW
  rw [those_on h hr]
  exact same_out h (wh_hs h.ok) (fun y hy => ((on_mem h.ok).1 hy).1) (wh_nodup h.ok (Nat.le_refl _)) _ (Nat.le_refl _)
structure GoesOk (ts : Array Value) (x : Int) (gs : Array Value) : Prop where
  sz : gs.size = 32
  b : ∀ i, i < 32 → IsBool gs i
  s : ∀ i, i < 32 → boolAt gs i = true → kindAt (bkT ts) i = 1 ∧ Below1 ts x (nameI i (ageAt (bkT ts) i))
  h : boolAt gs (sl x) = true
def cfN (gs : Array Value) : Nat → Nat
  | 0 => 0
  | i + 1 => cfN gs i + (if boolAt gs i = true then 0 else 1)
theorem bool_set {gs : Array Value} {j i : Nat} (hj : j < gs.size) : boolAt (gs.setIfInBounds j (.bool true)) i = if i = j then true else boolAt gs i := by
  by_cases e : i = j
  · rw [if_pos e, e]; exact boolAt_of (set_in hj)
  · rw [if_neg e]
    unfold boolAt
    rw [set_out e]
theorem cf_set {gs : Array Value} {j : Nat} (hj : j < gs.size) (hb : boolAt gs j = false) : ∀ n, cfN (gs.setIfInBounds j (.bool true)) n + (if j < n then 1 else 0) = cfN gs n
  | 0 => by simp [cfN]
  | n + 1 => by
    have ih := cf_set hj hb n
    show cfN _ n + _ + _ = cfN gs n + _
    rw [bool_set hj]
    by_cases e : n = j
    · subst e
      rw [if_neg (by omega)] at ih
      rw [if_pos rfl, if_pos rfl, if_pos (by omega), hb, if_neg (by simp)]
      omega
    · rw [if_neg e]
      by_cases q : j < n
      · rw [if_pos q] at ih
        rw [show (if j < n + 1 then (1 : Nat) else 0) = 1 from if_pos (by omega)]
        omega
      · rw [if_neg q] at ih
        rw [show (if j < n + 1 then (1 : Nat) else 0) = 0 from if_neg (by omega)]
        omega
theorem goes_set (h : Inv ts) {gs : Array Value} (hg : GoesOk ts x gs) {j : Nat} (hj : j < 32) (hk : kindAt (bkT ts) j = 1) (hy : Below1 ts x (nameI j (ageAt (bkT ts) j))) : GoesOk ts x (gs.setIfInBounds j (.bool true)) := by
  have hs := hg.sz
  refine ⟨by rw [set_size]; exact hs, fun i hi => ?_, fun i hi hb => ?_, ?_⟩
  · by_cases e : i = j
    · rw [e]; exact isBo_of (set_in (by omega))
    · have := hg.b i hi
      unfold IsBool boolAt at *
      rw [set_out e]; exact this
  · rw [bool_set (by omega)] at hb
    by_cases e : i = j
    · rw [e]; exact ⟨hk, hy⟩
    · rw [if_neg e] at hb
      exact hg.s i hi hb
  · rw [bool_set (by omega)]
    split
    · rfl
    · exact hg.h
def Shut (ts : Array Value) (gs : Array Value) (n : Nat) : Prop := ∀ i, i < n → kindAt (bkT ts) i = 1 → goodB (bkT ts) (tA ts i) = true → boolAt gs (sl (tA ts i)) = true → boolAt gs i = true
def goL (ws gs : Array Value) : Nat → List Int
  | 0 => []
  | i + 1 => if boolAt gs i = true then goL ws gs i ++ [nameI i (genW (rbT ws) i)] else goL ws gs i
theorem goL_succ {gs : Array Value} (i : Nat) : goL ws gs (i + 1) = if boolAt gs i = true then goL ws gs i ++ [nameI i (genW (rbT ws) i)] else goL ws gs i := rfl
theorem goL_le {gs : Array Value} : ∀ i, (goL ws gs i).length ≤ i
  | 0 => Nat.le_refl _
  | i + 1 => by
    have := goL_le (gs := gs) i
    rw [goL_succ]
    split
    · rw [List.length_append]; show _ + 1 ≤ _; omega
    · omega
theorem below_goes (h : Inv ts) {gs : Array Value} (hs : Shut ts gs 32) : ∀ {z y : Int}, Below1 ts z y → gd ts z → boolAt gs (sl z) = true → gd ts y ∧ boolAt gs (sl y) = true := by
  intro z y hb
  induction hb with
  | self z => exact fun a b => ⟨a, b⟩
  | kid hk _ ih =>
    intro hz hgz
    obtain ⟨g1, g2⟩ := (kids_mem h.ok).1 hk
    obtain ⟨s1, s2, s3, s4, s5, s6, s7, s8⟩ := good_slot h.ok g1
    refine ih g1 (hs _ (by omega) s5 ?_ ?_)
    · show goodB _ (rA ts _) = true
      rw [g2]; exact hz
    · show boolAt gs (sl (rA ts _)) = true
      rw [g2]; exact hgz
theorem goL_all (h : Inv ts) (hs : SameT ts ws) (hx : gd ts x) {gs : Array Value} (hg : GoesOk ts x gs) (hsh : Shut ts gs 32) : goL ws gs 32 = retL ts x := by
  have hd := depN_ok (h.deep hx)
  have key : ∀ i, i ≤ 32 → goL ws gs i = (issL (bkT ts) i).filter fun y => getI y (meetL ts (depN ts x) x []) == 1 := by
    intro i
    induction i with
    | zero => intro _; rfl
    | succ i ih =>
      intro hi
      rw [goL_succ, issL_succ, ih (by omega), (hs.c.b i (by omega)).1]
      by_cases c : kindAt (bkT ts) i = 1
      · rw [if_pos c, List.filter_append, List.filter_cons, List.filter_nil]
        have hgi : gd ts (nameI i (ageAt (bkT ts) i)) := (goodB_iff h.ok.bk).2 ⟨i, by omega, c, rfl⟩
        have hmem := gone_mem (y := nameI i (ageAt (bkT ts) i)) h.ok hd
        unfold goneL at hmem
        rw [List.mem_filter] at hmem
        have hiss := (issued_mem h.ok.bk).2 hgi
        have e : (boolAt gs i = true) ↔ ((getI (nameI i (ageAt (bkT ts) i)) (meetL ts (depN ts x) x []) == 1) = true) := by
          constructor
          · intro hb
            exact (hmem.2 ⟨hgi, (hg.s i (by omega) hb).2⟩).2
          · intro hb
            have hbel := (hmem.1 ⟨hiss, hb⟩).2
            have := (below_goes h hsh hbel hx hg.h).2
            have es : sl (nameI i (ageAt (bkT ts) i)) = i := slotI_name (by omega) (h.ok.bk.ra i (by omega))
            rw [es] at this
            exact this
        by_cases q : boolAt gs i = true
        · rw [if_pos q, if_pos (e.1 q)]
        · rw [if_neg q, if_neg (fun k => q (e.2 k)), List.append_nil]
      · rw [if_neg c, if_neg]
        intro hb
        exact c (hg.s i (by omega) hb).1
  exact key 32 (Nat.le_refl _)
theorem qZS_good {gs : Array Value} {A : SV → SMem → Prop} {QZ : Int → Array Value → Array Value → Prop} {QS : Int → Array Value → Array Value → Nat → Array Value → Prop} {fs : List SFr} {m : SMem} (hz : ∀ i nw zz, QZ i nw zz → Good Try.prog A 0 (qZ_F ws gs i nw zz) (qZ_M ws gs i nw zz)) (hs : ∀ i nw zz k cs, QS i nw zz k cs → Good Try.prog A 0 (qS_F ws gs i nw zz k cs) (qS_M ws gs i nw zz k cs)) (hb : qZS ws gs QZ QS fs m) : Good Try.prog A 0 fs m := by
  unfold qZS at hb
  split at hb
  · split at hb
    · exact qS_good hs hb
    · exact qZ_good hz hb
  · exact hb.elim
def GR (ws gs : Array Value) : SV → SMem → Prop := rOkW (outW ws (goL ws gs 32) (goL ws gs 32).length) (goL ws gs 32).length (i64s (goL ws gs 32))
theorem qS_ok (hw : WsOk ws) {gs : Array Value} (hg : ∀ i, i < 32 → IsBool gs i) {zz : Array Value} (hz : zz.size = 224) : ∀ (k i : Nat), i + k = 32 → Good Try.prog (GR ws gs) 0 (qS_F ws gs (i : Int) (outW ws (goL ws gs i) (goL ws gs i).length) zz (goL ws gs i).length (i64s (goL ws gs i))) (qS_M ws gs (i : Int) (outW ws (goL ws gs i) (goL ws gs i).length) zz (goL ws gs i).length (i64s (goL ws gs i))) := by
  have hs := hw.sz
  intro k
  induction k with
  | zero =>
    intro i hi
    obtain rfl : i = 32 := by omega
    refine past_vc EGr_ok 1000 (rs1 ws gs ((32 : Nat) : Int) _ zz _ _ (outW ws (goL ws gs 32) (goL ws gs 32).length) (goL ws gs 32).length (i64s (goL ws gs 32)) (fun _ _ _ _ _ => False)) ?_ (fun _ _ h => h) (fun fs m hb => qS_good (fun _ _ _ _ _ h => h.elim) hb)
    have d : decide (((32 : Nat) : Int) < 32) = false := rfl
    have ho := (outW_ok hw (goL ws gs 32) (goL ws gs 32).length).1.sz
    simp only [d, ho, hz, true_implies, Bool.true_eq_false, Bool.false_eq_true, false_implies, and_true, true_and]
  | succ k ih =>
    intro i hi
    refine past_vc EGr_ok 1000 (rs1 ws gs (i : Int) _ zz _ _ (outW ws (goL ws gs 32) (goL ws gs 32).length) (goL ws gs 32).length (i64s (goL ws gs 32)) (fun i' n' z' k' c' => i' = ((i + 1 : Nat) : Int) ∧ n' = outW ws (goL ws gs (i + 1)) (goL ws gs (i + 1)).length ∧ z' = zz ∧ k' = (goL ws gs (i + 1)).length ∧ c' = i64s (goL ws gs (i + 1)))) ?_ (fun _ _ h => h) (fun fs m hb => qS_good (fun i' n' z' k' c' ⟨e1, e2, e3, e4, e5⟩ => by rw [e1, e2, e3, e4, e5]; exact ih (i + 1) (by omega)) hb)
    have d : decide ((i : Int) < 32) = true := decide_eq_true (by omega)
    have ei : ari .add .i64 (i : Int) 1 = ((i + 1 : Nat) : Int) := by rw [ari_add, i64_in' (by omega) (by omega)]; omega
    have hi32 : i < 32 := by omega
    have hgi := hg i hi32
    have g1 : IsInt .i64 (ws.extract 0 64) i := hw.rb.c i (by omega)
    have g2 : intAt (ws.extract 0 64) i = genW (rbT ws) i := rfl
    have hof := ofW_run hi32 (hw.rb.rg i hi32)
    have hx0 : 0 ≤ (i : Int) := by omega
    have hx1 : (i : Int) < 32 := by omega
    have h64 : (64 : Nat) ≤ 224 := by decide
    obtain ⟨o1, o2⟩ := outW_ok hw (goL ws gs i) (goL ws gs i).length
    obtain ⟨v1, v2, v3⟩ := vd_facts o1 (nameI i (genW (rbT ws) i))
    have hrb : RbOk ((outW ws (goL ws gs i) (goL ws gs i).length).extract 0 64) := o1.rb
    have hvs : (voidW ((outW ws (goL ws gs i) (goL ws gs i).length).extract 0 64) (nameI i (genW (rbT ws) i))).size = 64 := (void_rb o1.rb _).sz
    have e1 : putAt (outW ws (goL ws gs i) (goL ws gs i).length) 0 (voidW ((outW ws (goL ws gs i) (goL ws gs i).length).extract 0 64) (nameI i (genW (rbT ws) i))).toList = vdW (outW ws (goL ws gs i) (goL ws gs i).length) (nameI i (genW (rbT ws) i)) := rfl
    have hl : (goL ws gs i).length ≤ i := goL_le i
    have hl1 : (((goL ws gs i).length + 1) * 8 ≤ 140737488355328 ∧ (goL ws gs i).length + 1 ≤ 140737488355328) := ⟨by omega, by omega⟩
    have o3 := o1.sz
    cases c : boolAt gs i with
    | true =>
      have e2 : goL ws gs (i + 1) = goL ws gs i ++ [nameI i (genW (rbT ws) i)] := by rw [goL_succ, if_pos c]
      have e3 : outW ws (goL ws gs (i + 1)) (goL ws gs (i + 1)).length = vdW (outW ws (goL ws gs i) (goL ws gs i).length) (nameI i (genW (rbT ws) i)) := by rw [e2]; exact outW_snoc
      rw [e3, e2]
      simp only [Int.toNat_natCast, Nat.mul_one, Nat.zero_add, d, c, ei, hgi, g1, g2, hof, hx0, hx1, h64, decide_true, hs, o3, hrb, hvs, e1, hl1, i64s_size, i64s_app, List.length_append, List.length_cons, List.length_nil, true_implies, and_true, true_and, Bool.true_eq_false, false_implies, qZ_d0_ok, qS_d0_ok]
    | false =>
      have e2 : goL ws gs (i + 1) = goL ws gs i := by rw [goL_succ, if_neg (by rw [c]; simp)]
      rw [e2]
      simp only [Int.toNat_natCast, Nat.mul_one, Nat.zero_add, d, c, ei, hgi, hx0, hx1, decide_true, true_implies, and_true, true_and, Bool.true_eq_false, Bool.false_eq_true, false_implies, qZ_d0_ok, qS_d0_ok]
theorem qZ_ok (hw : WsOk ws) {gs : Array Value} (hg : ∀ i, i < 32 → IsBool gs i) (hne : goL ws gs 32 ≠ []) {zz : Array Value} (hz : zz.size = 224) : ∀ (k i : Nat), i + k = 32 → goL ws gs i = [] → Good Try.prog (GR ws gs) 0 (qZ_F ws gs (i : Int) ws zz) (qZ_M ws gs (i : Int) ws zz) := by
  have hs := hw.sz
  intro k
  induction k with
  | zero =>
    intro i hi he
    obtain rfl : i = 32 := by omega
    exact absurd he hne
  | succ k ih =>
    intro i hi he
    refine past_vc EGr_ok 1000 (rz1 ws gs (i : Int) ws zz (outW ws (goL ws gs 32) (goL ws gs 32).length) (goL ws gs 32).length (i64s (goL ws gs 32)) (fun i' n' z' => i' = ((i + 1 : Nat) : Int) ∧ n' = ws ∧ z' = zz ∧ goL ws gs (i + 1) = []) (fun i' n' z' k' c' => i' = ((i + 1 : Nat) : Int) ∧ n' = outW ws (goL ws gs (i + 1)) (goL ws gs (i + 1)).length ∧ z' = zz ∧ k' = (goL ws gs (i + 1)).length ∧ c' = i64s (goL ws gs (i + 1)))) ?_ (fun _ _ h => h)
      (fun fs m hb => qZS_good (fun i' n' z' ⟨e1, e2, e3, e4⟩ => by rw [e1, e2, e3]; exact ih (i + 1) (by omega) e4) (fun i' n' z' k' c' ⟨e1, e2, e3, e4, e5⟩ => by rw [e1, e2, e3, e4, e5]; exact qS_ok hw hg hz k (i + 1) (by omega)) hb)
    have d : decide ((i : Int) < 32) = true := decide_eq_true (by omega)
    have ei : ari .add .i64 (i : Int) 1 = ((i + 1 : Nat) : Int) := by rw [ari_add, i64_in' (by omega) (by omega)]; omega
    have hi32 : i < 32 := by omega
    have hgi := hg i hi32
    have g1 : IsInt .i64 (ws.extract 0 64) i := hw.rb.c i (by omega)
    have g2 : intAt (ws.extract 0 64) i = genW (rbT ws) i := rfl
    have hof := ofW_run hi32 (hw.rb.rg i hi32)
    have hx0 : 0 ≤ (i : Int) := by omega
    have hx1 : (i : Int) < 32 := by omega
    have h64 : (64 : Nat) ≤ 224 := by decide
    have hrb : RbOk (ws.extract 0 64) := hw.rb
    have hvs : (voidW (ws.extract 0 64) (nameI i (genW (rbT ws) i))).size = 64 := (void_rb hw.rb _).sz
    have e1 : putAt ws 0 (voidW (ws.extract 0 64) (nameI i (genW (rbT ws) i))).toList = vdW ws (nameI i (genW (rbT ws) i)) := rfl
    cases c : boolAt gs i with
    | true =>
      have e2 : goL ws gs (i + 1) = [nameI i (genW (rbT ws) i)] := by rw [goL_succ, if_pos c, he]; rfl
      have e3 : outW ws [nameI i (genW (rbT ws) i)] 1 = vdW ws (nameI i (genW (rbT ws) i)) := rfl
      rw [e2]
      simp only [Int.toNat_natCast, Nat.mul_one, Nat.zero_add, d, c, ei, hgi, g1, g2, hof, hx0, hx1, h64, decide_true, hs, hrb, hvs, e1, e3, i64s_one, List.length_cons, List.length_nil, true_implies, and_true, true_and, Bool.true_eq_false, false_implies, qZ_d0_ok, qS_d0_ok]
    | false =>
      have e2 : goL ws gs (i + 1) = [] := by rw [goL_succ, if_neg (by rw [c]; simp)]; exact he
      rw [e2]
      simp only [Int.toNat_natCast, Nat.mul_one, Nat.zero_add, d, c, ei, hgi, hx0, hx1, decide_true, true_implies, and_true, true_and, Bool.true_eq_false, Bool.false_eq_true, false_implies, qZ_d0_ok, qS_d0_ok]
def RR (ts ws : Array Value) (x : Int) : SV → SMem → Prop := rOkW (outW ws (retL ts x) (retL ts x).length) (retL ts x).length (i64s (retL ts x))
theorem qA_ok (h : Inv ts) (hs : SameT ts ws) (hx : gd ts x) {zz : Array Value} (hz : zz.size = 224) : ∀ (n : Nat) (gs : Array Value), GoesOk ts x gs → cfN gs 32 < n → Good Try.prog (RR ts ws x) 0 (qA_F ws false 0 gs zz) (qA_M ws false 0 gs zz) := by
  intro n
  induction n with
  | zero => intro gs _ hc; omega
  | succ n ihn =>
    have inner : ∀ (k i : Nat) (mo : Bool) (gs : Array Value), i + k = 32 → GoesOk ts x gs → cfN gs 32 ≤ n → (mo = true → cfN gs 32 < n) → (mo = false → Shut ts gs i) → Good Try.prog (RR ts ws x) 0 (qA_F ws mo (i : Int) gs zz) (qA_M ws mo (i : Int) gs zz) := by
      intro k
      induction k with
      | zero =>
        intro i mo gs hi hg hc hm hsh
        obtain rfl : i = 32 := by omega
        refine past_vc EGr_ok 1000 (qa1_vc ws mo ((32 : Nat) : Int) gs zz (fun m' i' g' z' => m' = false ∧ i' = 0 ∧ g' = gs ∧ z' = zz ∧ mo = true) (fun i' n' z' => i' = ((0 : Nat) : Int) ∧ n' = ws ∧ z' = zz ∧ mo = false)) ?_ (fun _ _ h => h.elim)
          (fun fs m hb => qa1_go (fun m' i' g' z' ⟨e1, e2, e3, e4, e5⟩ => by rw [e1, e2, e3, e4]; exact ihn gs hg (hm e5)) (fun i' n' z' ⟨e1, e2, e3, e4⟩ => by
            rw [e1, e2, e3]
            have e := goL_all h hs hx hg (hsh e4)
            have hne : goL ws gs 32 ≠ [] := by
              rw [e]
              intro e0
              have : x ∈ retL ts x := (gone_mem h.ok (depN_ok (h.deep hx))).2 ⟨hx, .self x⟩
              rw [e0] at this
              cases this
            have := qZ_ok hs.w hg.b hne hz 32 0 (by omega) rfl
            unfold GR at this
            rw [e] at this
            exact this) hb)
        have d : decide (((32 : Nat) : Int) < 32) = false := rfl
        have hsz := hs.w.sz
        cases mo
        all_goals
          simp only [d, hsz, hz, true_implies, Bool.true_eq_false, Bool.false_eq_true, false_implies, and_true, true_and, qA_d0_ok, qZ_d0_ok]
          try rfl
      | succ k ih =>
        intro i mo gs hi hg hc hm hsh
        refine past_vc EGr_ok 1000 (qa1_vc ws mo (i : Int) gs zz (fun m' i' g' z' => i' = ((i + 1 : Nat) : Int) ∧ z' = zz ∧ GoesOk ts x g' ∧ cfN g' 32 ≤ n ∧ (m' = true → cfN g' 32 < n) ∧ (m' = false → Shut ts g' (i + 1))) (fun i' n' z' => False)) ?_ (fun _ _ h => h.elim)
          (fun fs m hb => qa1_go (fun m' i' g' z' ⟨e1, e2, e3, e4, e5, e6⟩ => by rw [e1, e2]; exact ih (i + 1) m' g' (by omega) e3 e4 e5 e6) (fun _ _ _ h => h.elim) hb)
        have d : decide ((i : Int) < 32) = true := decide_eq_true (by omega)
        have ei : ari .add .i64 (i : Int) 1 = ((i + 1 : Nat) : Int) := by rw [ari_add, i64_in' (by omega) (by omega)]; omega
        have hi32 : i < 32 := by omega
        have hgi := hg.b i hi32
        have hgs := hg.sz
        obtain ⟨q1, q2⟩ := is_cell hs.w hi32
        have x4 := hs.w.c4 i hi32
        have w4 : intAt ws (64 + i * 5 + 4) = wC ws i 4 := rfl
        have hx0 : 0 ≤ (i : Int) := by omega
        have hx1 : (i : Int) < 32 := by omega
        have hsz := hs.w.sz
        have hle : 64 ≤ ws.size := by omega
        have hrb : RbOk (ws.extract 0 64) := hs.w.rb
        have stay : (mo = false → boolAt gs i = true ∨ kindAt (bkT ts) i ≠ 1 ∨ goodB (bkT ts) (tA ts i) = false ∨ boolAt gs (sl (tA ts i)) = false) → GoesOk ts x gs ∧ cfN gs 32 ≤ n ∧ (mo = true → cfN gs 32 < n) ∧ (mo = false → Shut ts gs (i + 1)) := by
          intro hq
          refine ⟨hg, hc, hm, fun e => fun j hj k1 k2 k3 => ?_⟩
          by_cases q : j = i
          · subst q
            rcases hq e with k | k | k | k
            · exact k
            · exact absurd k1 k
            · rw [k2] at k; cases k
            · rw [k3] at k; cases k
          · exact hsh e j (by omega) k1 k2 k3
        simp only [Int.toNat_natCast, Nat.mul_one, Nat.zero_add, d, ei, hgi, hgs, q1, q2, x4, w4, hx0, hx1, hi32, hle, hrb, beqT, decide_true, true_implies, and_true, true_and, Bool.true_eq_false, false_implies, qA_d0_ok]
        cases c0 : (isW (rbT ws) i == 1) with
        | false =>
          have k0 : kindAt (bkT ts) i ≠ 1 := by
            rw [← (hs.c.b i hi32).2]
            simpa using c0
          simp only [true_implies, Bool.true_eq_false, Bool.false_eq_true, false_implies, and_true, true_and]
          exact stay fun _ => .inr (.inl k0)
        | true =>
          have k0 : kindAt (bkT ts) i = 1 := by
            rw [← (hs.c.b i hi32).2]
            simpa using c0
          have h16 : i < 16 := by
            rcases Nat.lt_or_ge i 16 with q | q
            · exact q
            · have := hs.ok.hi i q hi32; omega
          have t4 : wC ws i 4 = tA ts i := (hs.c.t i h16 k0).2.2.2.2
          cases c1 : boolAt gs i with
          | true =>
            simp only [Bool.not_true, true_implies, Bool.true_eq_false, Bool.false_eq_true, false_implies, and_true, true_and]
            exact stay fun _ => .inl c1
          | false =>
            have st := slot_t hs.ok hs.c (tA ts i)
            cases c2 : goodB (bkT ts) (tA ts i) with
            | false =>
              rw [c2, if_neg (by simp)] at st
              have sw : decide (slotW (ws.extract 0 64) (tA ts i) ≥ 0) = false := decide_eq_false (by rw [show slotW (ws.extract 0 64) (tA ts i) = -1 from st]; decide)
              simp only [t4, sw, Bool.not_false, true_implies, Bool.true_eq_false, Bool.false_eq_true, false_implies, and_true, true_and]
              exact stay fun _ => .inr (.inr (.inl c2))
            | true =>
              rw [c2, if_pos rfl] at st
              have sw : slotW (ws.extract 0 64) (tA ts i) = ((sl (tA ts i) : Nat) : Int) := st
              obtain ⟨s1, s2, s3, s4, s5, s6, s7, s8⟩ := good_slot hs.ok c2
              have d2 : decide (((sl (tA ts i) : Nat) : Int) ≥ 0) = true := decide_eq_true (by omega)
              have gb := hg.b (sl (tA ts i)) (by omega)
              have y0 : 0 ≤ ((sl (tA ts i) : Nat) : Int) := by omega
              have y1 : ((sl (tA ts i) : Nat) : Int) < 32 := by omega
              simp only [t4, sw, d2, gb, y0, y1, decide_true, Int.toNat_natCast, Bool.not_false, true_implies, Bool.true_eq_false, false_implies, and_true, true_and]
              cases c3 : boolAt gs (sl (tA ts i)) with
              | false =>
                simp only [Bool.false_eq_true, false_implies, true_implies, Bool.true_eq_false, and_true, true_and]
                exact stay fun _ => .inr (.inr (.inr c3))
              | true =>
                simp only [Bool.true_eq_false, false_implies, true_implies, and_true, true_and]
                have hb := (hg.s _ (by omega) c3).2
                rw [← s6] at hb
                have hgi2 : gd ts (nameI i (ageAt (bkT ts) i)) := (goodB_iff hs.ok.bk).2 ⟨i, hi32, k0, rfl⟩
                have es : sl (nameI i (ageAt (bkT ts) i)) = i := slotI_name hi32 (hs.ok.bk.ra i hi32)
                have hkid : nameI i (ageAt (bkT ts) i) ∈ kidsT ts (tA ts i) := (kids_mem hs.ok).2 ⟨hgi2, by unfold rA; rw [es]⟩
                have hset := cf_set (gs := gs) (j := i) (by omega) c1 32
                rw [if_pos hi32] at hset
                refine ⟨goes_set h hg hi32 k0 (below_last hb hkid), by omega, by omega⟩
    intro gs hg hc
    exact inner 32 0 false gs (by omega) hg (by omega) (fun e => by cases e) (fun _ i hi => by omega)
def fz : Array Value := (List.replicate 32 (Value.bool false)).toArray
theorem fz_size : fz.size = 32 := by unfold fz; simp
theorem fz_at {i : Nat} (hi : i < 32) : fz[i]? = some (.bool false) := by
  unfold fz
  rw [List.getElem?_toArray, List.getElem?_replicate, if_pos hi]
theorem fz_goes (h : Inv ts) (hx : gd ts x) : GoesOk ts x (fz.setIfInBounds (sl x) (.bool true)) := by
  obtain ⟨s1, s2, s3, s4, s5, s6, s7, s8⟩ := good_slot h.ok hx
  have hz := fz_size
  refine ⟨by rw [set_size]; exact hz, fun i hi => ?_, fun i hi hb => ?_, ?_⟩
  · by_cases e : i = sl x
    · rw [e]; exact isBo_of (set_in (by omega))
    · exact isBo_of ((set_out e).trans (fz_at hi))
  · rw [bool_set (by omega)] at hb
    by_cases e : i = sl x
    · rw [e]
      refine ⟨s5, ?_⟩
      rw [← s6]; exact .self x
    · rw [if_neg e, boolAt_of (fz_at hi)] at hb
      cases hb
  · rw [bool_set (by omega), if_pos rfl]
theorem fz_eq : #[Value.bool false, .bool false, .bool false, .bool false, .bool false, .bool false, .bool false, .bool false, .bool false, .bool false, .bool false, .bool false, .bool false, .bool false, .bool false, .bool false, .bool false, .bool false, .bool false, .bool false, .bool false, .bool false, .bool false, .bool false, .bool false, .bool false, .bool false, .bool false, .bool false, .bool false, .bool false, .bool false] = fz := by kernel_rfl
theorem rret_good (h : Inv ts) (hs : SameT ts ws) (hx : gd ts x) : Good Try.prog (RR ts ws x) 0 [callFr 8 Try.f8.ntmps [wsS ws, i64 (.o x)] (Try.f8.body.getD .skip)] e0M := by
  refine run_vc EGr_ok 1000 (rq0 ws x False (fun mo i g z => mo = false ∧ i = 0 ∧ g = fz.setIfInBounds (sl x) (.bool true) ∧ z.size = 224)) ?_ (fun s m h => ?_) (fun fs m hb => qA_good (fun mo i g z ⟨e1, e2, e3, e4⟩ => by rw [e1, e2, e3]; exact qA_ok h hs hx e4 _ _ (fz_goes h hx) (Nat.lt_succ_self _)) hb)
  · have hsz := hs.w.sz
    have hle : 64 ≤ ws.size := by omega
    have h64 : (64 : Nat) ≤ 224 := by decide
    have hrb : RbOk (ws.extract 0 64) := hs.w.rb
    obtain ⟨s1, s2, s3, s4, s5, s6, s7, s8⟩ := good_slot hs.ok hx
    have st := slot_t hs.ok hs.c x
    rw [show goodB (bkT ts) x = true from hx, if_pos rfl] at st
    have sw : slotW (ws.extract 0 64) x = ((sl x : Nat) : Int) := st
    have d : decide (((sl x : Nat) : Int) < 0) = false := decide_eq_false (by omega)
    have y0 : 0 ≤ ((sl x : Nat) : Int) := by omega
    have y1 : ((sl x : Nat) : Int) < 32 := by omega
    have y2 : sl x < 32 := by omega
    simp only [sw, d, y0, y1, y2, hsz, h64, hrb, fz_eq, Int.toNat_natCast, Nat.mul_one, Nat.zero_add, decide_true, true_implies, Bool.true_eq_false, Bool.false_eq_true, false_implies, and_true, true_and, qA_d0_ok]
    try rfl
  · unfold rBad at h
    split at h
    · exact h.1.elim
    · exact h.elim
theorem rret_bad (hs : SameT ts ws) (hx : goodB (bkT ts) x = false) : Good Try.prog (rBad True ws) 0 [callFr 8 Try.f8.ntmps [wsS ws, i64 (.o x)] (Try.f8.body.getD .skip)] e0M := by
  refine run_vc EGr_ok 1000 (rq0 ws x True (fun mo i g z => False)) ?_ (fun s m h => h) (fun fs m hb => qA_good (fun mo i g z h => h.elim) hb)
  have hsz := hs.w.sz
  have hle : 64 ≤ ws.size := by omega
  have h64 : (64 : Nat) ≤ 224 := by decide
  have hrb : RbOk (ws.extract 0 64) := hs.w.rb
  have st := slot_t hs.ok hs.c x
  rw [hx, if_neg (by simp)] at st
  have sw : slotW (ws.extract 0 64) x = -1 := st
  have d : decide ((-1 : Int) < 0) = true := rfl
  simp only [sw, d, hsz, h64, hrb, true_implies, Bool.true_eq_false, Bool.false_eq_true, false_implies, and_true, true_and, qA_d0_ok]
noncomputable def rretTree (ts ws : Array Value) (x : Int) (m : SMem) : Tree :=
  .br (goodB (bkT ts) x) (.ret (.tup [.agg (.op (outW ws (retL ts x) (retL ts x).length)), .c (.f (.slice m.next (.l 0) (.o (retL ts x).length) (.full 1))), .c (.f (.int .i64 (.l 0)))]) (m.new (.pop (i64s (retL ts x))) 3))
    (.ret (.tup [.agg (.op ws), .c (.f (.lit (.slice none 0 0))), .c (.f (.int .i64 (.l 4)))]) m)
theorem fn8 : E0.fn 8 = some Try.f8 := by kernel_rfl
theorem body8 : Try.f8.body = some (Try.f8.body.getD .skip) := by kernel_rfl
theorem rreturn_con (x : Int) (m : SMem) : Con E0 8 [wsS ws, i64 (.o x)] m (.need [Inv ts, SameT ts ws] (rretTree ts ws x m)) := by
  refine Con.asked fun hq => ?_
  have h : Inv ts := hq _ (by simp)
  have hs : SameT ts ws := hq _ (by simp)
  refine Con.two (fun hg => ?_) (fun hg => ?_)
  · intro A hA
    refine ⟨Try.f8, fn8, by rw [body8]; rfl, fun n0 F w0 w R args hl hR => ?_⟩
    refine (answers_of_good (m := e0M) (E0_ok.fns _ _ fn8).1 body8 (rret_good h hs hg) (ok_anys (by kernel_rfl) hl) hR.none).mono ?_
    rintro v w' ⟨s, m', R', hs, hX, hR', hv⟩
    unfold RR rOkW at hs
    split at hs
    · rename_i o' id nn e
      split at hs
      · rename_i ds ty hb0
        obtain ⟨rfl, rfl, rfl, rfl, he⟩ := hs
        obtain ⟨gl, cs, fz, e1, e2, e3, e4, e5⟩ := hR'.blk id _ hb0
        obtain ⟨e6, ez⟩ := e5 rfl
        have e7 : w.heap.size ≤ gl.b := e6.resolve_right fun x => x
        obtain ⟨R2, k1, k2, k3⟩ := hR.grow hR'.fr.to e7 (hR'.lt id gl e1) e2 e3 (free_ok (R' := R) (a := .pop _) rfl e4) ez
        obtain ⟨vs, rfl, hv⟩ := hv
        match hvs : vs.toList, hv with
        | [a, b, c], hv =>
          obtain ⟨ha, ⟨g, cp, f1, rfl, f2, f3⟩, hy, _⟩ := hv
          rw [e1] at f1
          cases f1
          refine ⟨_, _, R2, hA, k1, k3, vs, rfl, ?_⟩
          rw [hvs]
          refine ⟨ha, ⟨gl, cp, k2, rfl, f2, f3⟩, ?_, trivial⟩
          have hy : c = .int .i64 e.den := hy
          rw [hy, he]; rfl
      · exact hs.elim
    · exact hs.elim
  · intro A hA
    refine ⟨Try.f8, fn8, by rw [body8]; rfl, fun n0 F w0 w R args hl hR => ?_⟩
    refine (answers_of_good (m := e0M) (E0_ok.fns _ _ fn8).1 body8 (rret_bad hs hg) (ok_anys (by kernel_rfl) hl) hR.none).mono ?_
    rintro v w' ⟨s, m', R', hs, hX, hR', hv⟩
    unfold rBad at hs
    split at hs
    · rename_i o' e
      obtain ⟨_, rfl, he⟩ := hs
      refine ⟨_, _, R, hA, ⟨fun _ _ h => h, fun _ _ h => .inl h, hX.2.2.1, Nat.le_refl _⟩, hR.step hR'.fr.to, ?_⟩
      obtain ⟨vs, rfl, hv⟩ := hv
      match hvs : vs.toList, hv with
      | [a, b, c], hv =>
        obtain ⟨ha, hb, hy, _⟩ := hv
        refine ⟨vs, rfl, ?_⟩
        rw [hvs]
        refine ⟨ha, hb, ?_, trivial⟩
        have hy : c = .int .i64 e.den := hy
        rw [hy, he]; rfl
    · exact hs.elim
theorem same_ret (h : Inv ts) (hs : SameT ts ws) (hx : gd ts x) : SameT (retT ts x) (outW ws (retL ts x) (retL ts x).length) :=
  same_out hs (gone_hs h.ok) (fun y hy => ((gone_mem h.ok (depN_ok (h.deep hx))).1 hy).1) ((issued_nodup h.ok.bk).filter _) _ (Nat.le_refl _)
end
end Go.Proofs.Ytnjmockpdmchcaa
/- Of token: the law's row: states. No condition. -/
namespace Go.Proofs.Ytnjmockpdmchcaa
set_option linter.unusedVariables false
noncomputable def ERo : Env := ⟨Try.prog, fnOf, conD0, haltAt [9004]⟩
noncomputable def ERn : Env := ⟨Try.prog, fnOf, conD0, haltAt []⟩
noncomputable def r0S (n : Nat) : SV := .s (.c (.f (.slice 0 (.l 0) (.o n) (.full 1))))
noncomputable def r1S (n : Nat) : SV := .s (.c (.f (.slice 1 (.l 0) (.o n) (.full 1))))
noncomputable def roM (rs ss : Array Value) : SMem := mkM 2 [(0, ⟨.pop rs, 30, false⟩), (1, ⟨.pop ss, 3, false⟩)]
noncomputable def wR_d0 : List SIt := sekF Try.f9 4
noncomputable def wR_F (n : Nat) (rs : Array Value) (ss : Array Value) (i : Int) : List SFr := [frOf 9 Try.f9 [(0, r0S n), (1, r1S n), (5, i64 (.o i))] wR_d0]
noncomputable def wR_M (n : Nat) (rs : Array Value) (ss : Array Value) (i : Int) : SMem := mkM 2 [(0, ⟨.pop rs, 30, false⟩), (1, ⟨.pop ss, 3, false⟩)]
noncomputable def wR_n (n : Nat) (rs : Array Value) (ss : Array Value) (Q : Int → Prop) (fs : List SFr) (m : SMem) : Prop := (match frNth fs 0 with | some f0 => (match rdI f0 5 with | some i => Q i ∧ subOk 2 [] (wR_F n rs ss i) (wR_M n rs ss i) fs m | none => False) | none => False)
noncomputable def wr1_t (n : Nat) (rs : Array Value) (ss : Array Value) (i : Int) : Tree := stepT ERo.go (run ERo 1000) 2 (wR_F n rs ss i) (wR_M n rs ss i)
noncomputable def wr1_x (n : Nat) (rs : Array Value) (ss : Array Value) (i : Int) (QwR : Int → Prop) (fs : List SFr) (m : SMem) : Prop := wR_n n rs ss QwR fs m
noncomputable def wr0_t (n : Nat) (rs : Array Value) (ss : Array Value) : Tree := run ERo 1000 2 [callFr 9 Try.f9.ntmps [r0S n, r1S n] (Try.f9.body.getD .skip)] (roM rs ss)
noncomputable def wr0_x (n : Nat) (rs : Array Value) (ss : Array Value) (QwR : Int → Prop) (fs : List SFr) (m : SMem) : Prop := wR_n n rs ss QwR fs m
noncomputable def wrn_t (z : Nat) : Tree := run ERn 1000 0 [callFr 9 Try.f9.ntmps [.s (.c (.f (.lit (.slice none 0 0)))), .s (.c (.f (.lit (.slice none 0 0))))] (Try.f9.body.getD .skip)] e0M
noncomputable def wrn_x (z : Nat)  (fs : List SFr) (m : SMem) : Prop := False
theorem wR_d0_ok (r : Nat → Option Nat) : TodoOk r wR_d0 wR_d0 := TodoOk.it (by kernel_rfl)
theorem wR_good {A : SV → SMem → Prop} {n : Nat} {rs : Array Value} {ss : Array Value} {Q : Int → Prop} {fs : List SFr} {m : SMem} (H : ∀ i, Q i → Good Try.prog A 2 (wR_F n rs ss i) (wR_M n rs ss i)) (hb : wR_n n rs ss Q fs m) : Good Try.prog A 2 fs m := by
  unfold wR_n at hb
  split at hb
  rotate_left
  · exact hb.elim
  split at hb
  rotate_left
  · exact hb.elim
  exact Good.of_sub hb.2 (H _ hb.1)
theorem wr1_go {A : SV → SMem → Prop} {n : Nat} {rs : Array Value} {ss : Array Value} {i : Int} {QwR : Int → Prop} {fs : List SFr} {m : SMem} (hwR : ∀ i', QwR i' → Good Try.prog A 2 (wR_F n rs ss i') (wR_M n rs ss i')) (hb : wr1_x n rs ss i QwR fs m) : Good Try.prog A 2 fs m := by
  unfold wr1_x at hb
  exact wR_good hwR hb
theorem wr0_go {A : SV → SMem → Prop} {n : Nat} {rs : Array Value} {ss : Array Value} {QwR : Int → Prop} {fs : List SFr} {m : SMem} (hwR : ∀ i', QwR i' → Good Try.prog A 2 (wR_F n rs ss i') (wR_M n rs ss i')) (hb : wr0_x n rs ss QwR fs m) : Good Try.prog A 2 fs m := by
  unfold wr0_x at hb
  exact wR_good hwR hb
end Go.Proofs.Ytnjmockpdmchcaa
/- Of token: the law's row: states. -/
namespace Go.Proofs.Ytnjmockpdmchcaa
set_option maxRecDepth 100000
theorem wr1_vc (n : Nat) (rs : Array Value) (ss : Array Value) (i : Int) (QwR : Int → Prop) : (wr1_t n rs ss i).vc ((isB true)) (wr1_x n rs ss i QwR) =
    ((decide (i < (↑n : Int)) = true → (((0 : Int) ≤ i ∧ i < (↑n : Int)) ∧ True) ∧ (IsInt IntKind.u32 rs ((0 : Nat) + Int.toNat i * 1) ∧ True) ∧ (((0 : Int) ≤ i ∧ i < (↑n : Int)) ∧ True) ∧ (IsInt IntKind.i64 ss ((0 : Nat) + Int.toNat i * 1) ∧ True) ∧ ((IntKind.wrap IntKind.i64 (intAt rs ((0 : Nat) + Int.toNat i * 1)) != intAt ss ((0 : Nat) + Int.toNat i * 1)) = true → false = true) ∧ ((IntKind.wrap IntKind.i64 (intAt rs ((0 : Nat) + Int.toNat i * 1)) != intAt ss ((0 : Nat) + Int.toNat i * 1)) = false → QwR (ari BinOp.add IntKind.i64 i (1 : Int)) ∧ CallKind.normal = CallKind.normal ∧ TodoOk (ren 2 []) wR_d0 wR_d0 ∧ n = n ∧ n = n ∧ ari BinOp.add IntKind.i64 i (1 : Int) = ari BinOp.add IntKind.i64 i (1 : Int) ∧ (30 : TypeId) = (30 : TypeId) ∧ rs = rs ∧ (3 : TypeId) = (3 : TypeId) ∧ ss = ss ∧ True)) ∧ (decide (i < (↑n : Int)) = false → true = true)) := by kernel_rfl
theorem wr0_vc (n : Nat) (rs : Array Value) (ss : Array Value) (QwR : Int → Prop) : (wr0_t n rs ss).vc ((isB true)) (wr0_x n rs ss QwR) =
    ((((↑n : Int) != (↑n : Int)) = true → false = true) ∧ (((↑n : Int) != (↑n : Int)) = false → QwR (0 : Int) ∧ CallKind.normal = CallKind.normal ∧ TodoOk (ren 2 []) wR_d0 wR_d0 ∧ n = n ∧ n = n ∧ (0 : Int) = (0 : Int) ∧ (30 : TypeId) = (30 : TypeId) ∧ rs = rs ∧ (3 : TypeId) = (3 : TypeId) ∧ ss = ss ∧ True)) := by kernel_rfl
theorem wrn_vc (z : Nat) : (wrn_t z).vc ((isB true)) (wrn_x z ) =
    (true = true) := by kernel_rfl
end Go.Proofs.Ytnjmockpdmchcaa
/- Of token: the law's Same, name: states. No condition. -/
namespace Go.Proofs.Ytnjmockpdmchcaa
set_option linter.unusedVariables false
noncomputable def conS (g : FuncId) (l : List SV) (m : SMem) : Option Tree := match conD1 g l m with | some t => some t | none => conU 0 g l m
noncomputable def ES : Env := ⟨Try.prog, fnOf, conS, haltAt [15002]⟩
noncomputable def EN : Env := ⟨Try.prog, fnOf, conD0, haltAt []⟩
noncomputable def sL_d0 : List SIt := sekF Try.f15 2
noncomputable def sL_F (ts : Array Value) (ws : Array Value) (i : Int) : List SFr := [frOf 15 Try.f15 [(2, ptr 0 (.l 0)), (3, ptr 1 (.l 0)), (5, i64 (.o i))] sL_d0]
noncomputable def sL_M (ts : Array Value) (ws : Array Value) (i : Int) : SMem := mkM 2 [(0, ⟨.op ts, 35, true⟩), (1, ⟨.op ws, 43, true⟩)]
noncomputable def sL_n (ts : Array Value) (ws : Array Value) (Q : Int → Prop) (fs : List SFr) (m : SMem) : Prop := (match frNth fs 0 with | some f0 => (match rdI f0 5 with | some i => (match rdP f0 2 with | some p0 => (match rdP f0 3 with | some p1 => Q i ∧ subOk 0 [(0, p0), (1, p1)] (sL_F ts ws i) (sL_M ts ws i) fs m | none => False) | none => False) | none => False) | none => False)
noncomputable def sl1_t (ts : Array Value) (ws : Array Value) (i : Int) : Tree := stepT ES.go (run ES 1000) 0 (sL_F ts ws i) (sL_M ts ws i)
noncomputable def sl1_x (ts : Array Value) (ws : Array Value) (i : Int) (QsL : Int → Prop) (fs : List SFr) (m : SMem) : Prop := sL_n ts ws QsL fs m
noncomputable def sl0_t (ts : Array Value) (ws : Array Value) : Tree := run ES 1000 0 [callFr 15 Try.f15.ntmps [tkS ts, wsS ws] (Try.f15.body.getD .skip)] e0M
noncomputable def sl0_x (ts : Array Value) (ws : Array Value) (QsL : Int → Prop) (fs : List SFr) (m : SMem) : Prop := sL_n ts ws QsL fs m
theorem sL_d0_ok (r : Nat → Option Nat) : TodoOk r sL_d0 sL_d0 := TodoOk.it (by kernel_rfl)
theorem sL_good {A : SV → SMem → Prop} {ts : Array Value} {ws : Array Value} {Q : Int → Prop} {fs : List SFr} {m : SMem} (H : ∀ i, Q i → Good Try.prog A 0 (sL_F ts ws i) (sL_M ts ws i)) (hb : sL_n ts ws Q fs m) : Good Try.prog A 0 fs m := by
  unfold sL_n at hb
  split at hb
  rotate_left
  · exact hb.elim
  split at hb
  rotate_left
  · exact hb.elim
  split at hb
  rotate_left
  · exact hb.elim
  split at hb
  rotate_left
  · exact hb.elim
  exact Good.of_sub hb.2 (H _ hb.1)
theorem sl1_go {A : SV → SMem → Prop} {ts : Array Value} {ws : Array Value} {i : Int} {QsL : Int → Prop} {fs : List SFr} {m : SMem} (hsL : ∀ i', QsL i' → Good Try.prog A 0 (sL_F ts ws i') (sL_M ts ws i')) (hb : sl1_x ts ws i QsL fs m) : Good Try.prog A 0 fs m := by
  unfold sl1_x at hb
  exact sL_good hsL hb
theorem sl0_go {A : SV → SMem → Prop} {ts : Array Value} {ws : Array Value} {QsL : Int → Prop} {fs : List SFr} {m : SMem} (hsL : ∀ i', QsL i' → Good Try.prog A 0 (sL_F ts ws i') (sL_M ts ws i')) (hb : sl0_x ts ws QsL fs m) : Good Try.prog A 0 fs m := by
  unfold sl0_x at hb
  exact sL_good hsL hb
end Go.Proofs.Ytnjmockpdmchcaa
/- Of token: the law's Same, name: states. -/
namespace Go.Proofs.Ytnjmockpdmchcaa
set_option maxRecDepth 100000
theorem sl1_vc (ts : Array Value) (ws : Array Value) (i : Int) (QsL : Int → Prop) : (sl1_t ts ws i).vc ((isB true)) (sl1_x ts ws i QsL) =
    ((decide (i < (32 : Int)) = true → ((64 : Nat) ≤ Array.size ws ∧ True) ∧ (((0 : Int) ≤ i ∧ i < (32 : Int)) ∧ True) ∧ (IsInt IntKind.i64 (Array.extract ws (0 : Nat) (64 : Nat)) ((0 : Nat) + Int.toNat i * 1) ∧ True) ∧ (Array.size ts = (144 : Nat) ∧ True) ∧ (TsOk ts ∧ ((0 : Int) ≤ IntKind.wrap IntKind.u32 (ari BinOp.add IntKind.i64 (ari BinOp.add IntKind.i64 i (ari BinOp.mul IntKind.i64 (256 : Int) (intAt (Array.extract ws (0 : Nat) (64 : Nat)) ((0 : Nat) + Int.toNat i * 1)))) (1 : Int)) ∧ IntKind.wrap IntKind.u32 (ari BinOp.add IntKind.i64 (ari BinOp.add IntKind.i64 i (ari BinOp.mul IntKind.i64 (256 : Int) (intAt (Array.extract ws (0 : Nat) (64 : Nat)) ((0 : Nat) + Int.toNat i * 1)))) (1 : Int)) < (4294967296 : Int)) ∧ True) ∧ (Array.size (getC ts (IntKind.wrap IntKind.u32 (ari BinOp.add IntKind.i64 (ari BinOp.add IntKind.i64 i (ari BinOp.mul IntKind.i64 (256 : Int) (intAt (Array.extract ws (0 : Nat) (64 : Nat)) ((0 : Nat) + Int.toNat i * 1)))) (1 : Int)))) = (5 : Nat) ∧ Array.size (getC ts (IntKind.wrap IntKind.u32 (ari BinOp.add IntKind.i64 (ari BinOp.add IntKind.i64 i (ari BinOp.mul IntKind.i64 (256 : Int) (intAt (Array.extract ws (0 : Nat) (64 : Nat)) ((0 : Nat) + Int.toNat i * 1)))) (1 : Int)))) = (5 : Nat) ∧ True) ∧ (Array.size ws = (224 : Nat) ∧ True) ∧ (WsOk ws ∧ True) ∧ (Array.size (getWC ws (ari BinOp.add IntKind.i64 (ari BinOp.add IntKind.i64 i (ari BinOp.mul IntKind.i64 (256 : Int) (intAt (Array.extract ws (0 : Nat) (64 : Nat)) ((0 : Nat) + Int.toNat i * 1)))) (1 : Int))) = (5 : Nat) ∧ Array.size (getWC ws (ari BinOp.add IntKind.i64 (ari BinOp.add IntKind.i64 i (ari BinOp.mul IntKind.i64 (256 : Int) (intAt (Array.extract ws (0 : Nat) (64 : Nat)) ((0 : Nat) + Int.toNat i * 1)))) (1 : Int))) = (5 : Nat) ∧ True) ∧ (((getE ts (IntKind.wrap IntKind.u32 (ari BinOp.add IntKind.i64 (ari BinOp.add IntKind.i64 i (ari BinOp.mul IntKind.i64 (256 : Int) (intAt (Array.extract ws (0 : Nat) (64 : Nat)) ((0 : Nat) + Int.toNat i * 1)))) (1 : Int))) != getWE ws (ari BinOp.add IntKind.i64 (ari BinOp.add IntKind.i64 i (ari BinOp.mul IntKind.i64 (256 : Int) (intAt (Array.extract ws (0 : Nat) (64 : Nat)) ((0 : Nat) + Int.toNat i * 1)))) (1 : Int))) == false) = true → (((getE ts (IntKind.wrap IntKind.u32 (ari BinOp.add IntKind.i64 (ari BinOp.add IntKind.i64 i (ari BinOp.mul IntKind.i64 (256 : Int) (intAt (Array.extract ws (0 : Nat) (64 : Nat)) ((0 : Nat) + Int.toNat i * 1)))) (1 : Int))) == (0 : Int)) == true) = true → (IsInt IntKind.u32 (getC ts (IntKind.wrap IntKind.u32 (ari BinOp.add IntKind.i64 (ari BinOp.add IntKind.i64 i (ari BinOp.mul IntKind.i64 (256 : Int) (intAt (Array.extract ws (0 : Nat) (64 : Nat)) ((0 : Nat) + Int.toNat i * 1)))) (1 : Int)))) (0 : Nat) ∧ IsInt IntKind.u8 (getC ts (IntKind.wrap IntKind.u32 (ari BinOp.add IntKind.i64 (ari BinOp.add IntKind.i64 i (ari BinOp.mul IntKind.i64 (256 : Int) (intAt (Array.extract ws (0 : Nat) (64 : Nat)) ((0 : Nat) + Int.toNat i * 1)))) (1 : Int)))) (1 : Nat) ∧ IsInt IntKind.u8 (getC ts (IntKind.wrap IntKind.u32 (ari BinOp.add IntKind.i64 (ari BinOp.add IntKind.i64 i (ari BinOp.mul IntKind.i64 (256 : Int) (intAt (Array.extract ws (0 : Nat) (64 : Nat)) ((0 : Nat) + Int.toNat i * 1)))) (1 : Int)))) (2 : Nat) ∧ IsBool (getC ts (IntKind.wrap IntKind.u32 (ari BinOp.add IntKind.i64 (ari BinOp.add IntKind.i64 i (ari BinOp.mul IntKind.i64 (256 : Int) (intAt (Array.extract ws (0 : Nat) (64 : Nat)) ((0 : Nat) + Int.toNat i * 1)))) (1 : Int)))) (3 : Nat) ∧ IsInt IntKind.u32 (getC ts (IntKind.wrap IntKind.u32 (ari BinOp.add IntKind.i64 (ari BinOp.add IntKind.i64 i (ari BinOp.mul IntKind.i64 (256 : Int) (intAt (Array.extract ws (0 : Nat) (64 : Nat)) ((0 : Nat) + Int.toNat i * 1)))) (1 : Int)))) (4 : Nat) ∧ True) ∧ (IsInt IntKind.i64 (getWC ws (ari BinOp.add IntKind.i64 (ari BinOp.add IntKind.i64 i (ari BinOp.mul IntKind.i64 (256 : Int) (intAt (Array.extract ws (0 : Nat) (64 : Nat)) ((0 : Nat) + Int.toNat i * 1)))) (1 : Int))) (0 : Nat) ∧ IsInt IntKind.i64 (getWC ws (ari BinOp.add IntKind.i64 (ari BinOp.add IntKind.i64 i (ari BinOp.mul IntKind.i64 (256 : Int) (intAt (Array.extract ws (0 : Nat) (64 : Nat)) ((0 : Nat) + Int.toNat i * 1)))) (1 : Int))) (1 : Nat) ∧ IsInt IntKind.i64 (getWC ws (ari BinOp.add IntKind.i64 (ari BinOp.add IntKind.i64 i (ari BinOp.mul IntKind.i64 (256 : Int) (intAt (Array.extract ws (0 : Nat) (64 : Nat)) ((0 : Nat) + Int.toNat i * 1)))) (1 : Int))) (2 : Nat) ∧ IsBool (getWC ws (ari BinOp.add IntKind.i64 (ari BinOp.add IntKind.i64 i (ari BinOp.mul IntKind.i64 (256 : Int) (intAt (Array.extract ws (0 : Nat) (64 : Nat)) ((0 : Nat) + Int.toNat i * 1)))) (1 : Int))) (3 : Nat) ∧ IsInt IntKind.i64 (getWC ws (ari BinOp.add IntKind.i64 (ari BinOp.add IntKind.i64 i (ari BinOp.mul IntKind.i64 (256 : Int) (intAt (Array.extract ws (0 : Nat) (64 : Nat)) ((0 : Nat) + Int.toNat i * 1)))) (1 : Int))) (4 : Nat) ∧ True) ∧ (((!(IntKind.wrap IntKind.i64 (intAt (getC ts (IntKind.wrap IntKind.u32 (ari BinOp.add IntKind.i64 (ari BinOp.add IntKind.i64 i (ari BinOp.mul IntKind.i64 (256 : Int) (intAt (Array.extract ws (0 : Nat) (64 : Nat)) ((0 : Nat) + Int.toNat i * 1)))) (1 : Int)))) (0 : Nat)) == intAt (getWC ws (ari BinOp.add IntKind.i64 (ari BinOp.add IntKind.i64 i (ari BinOp.mul IntKind.i64 (256 : Int) (intAt (Array.extract ws (0 : Nat) (64 : Nat)) ((0 : Nat) + Int.toNat i * 1)))) (1 : Int))) (0 : Nat) && (IntKind.wrap IntKind.i64 (intAt (getC ts (IntKind.wrap IntKind.u32 (ari BinOp.add IntKind.i64 (ari BinOp.add IntKind.i64 i (ari BinOp.mul IntKind.i64 (256 : Int) (intAt (Array.extract ws (0 : Nat) (64 : Nat)) ((0 : Nat) + Int.toNat i * 1)))) (1 : Int)))) (1 : Nat)) == intAt (getWC ws (ari BinOp.add IntKind.i64 (ari BinOp.add IntKind.i64 i (ari BinOp.mul IntKind.i64 (256 : Int) (intAt (Array.extract ws (0 : Nat) (64 : Nat)) ((0 : Nat) + Int.toNat i * 1)))) (1 : Int))) (1 : Nat) && (IntKind.wrap IntKind.i64 (intAt (getC ts (IntKind.wrap IntKind.u32 (ari BinOp.add IntKind.i64 (ari BinOp.add IntKind.i64 i (ari BinOp.mul IntKind.i64 (256 : Int) (intAt (Array.extract ws (0 : Nat) (64 : Nat)) ((0 : Nat) + Int.toNat i * 1)))) (1 : Int)))) (2 : Nat)) == intAt (getWC ws (ari BinOp.add IntKind.i64 (ari BinOp.add IntKind.i64 i (ari BinOp.mul IntKind.i64 (256 : Int) (intAt (Array.extract ws (0 : Nat) (64 : Nat)) ((0 : Nat) + Int.toNat i * 1)))) (1 : Int))) (2 : Nat) && (boolAt (getC ts (IntKind.wrap IntKind.u32 (ari BinOp.add IntKind.i64 (ari BinOp.add IntKind.i64 i (ari BinOp.mul IntKind.i64 (256 : Int) (intAt (Array.extract ws (0 : Nat) (64 : Nat)) ((0 : Nat) + Int.toNat i * 1)))) (1 : Int)))) (3 : Nat) == boolAt (getWC ws (ari BinOp.add IntKind.i64 (ari BinOp.add IntKind.i64 i (ari BinOp.mul IntKind.i64 (256 : Int) (intAt (Array.extract ws (0 : Nat) (64 : Nat)) ((0 : Nat) + Int.toNat i * 1)))) (1 : Int))) (3 : Nat) && IntKind.wrap IntKind.i64 (intAt (getC ts (IntKind.wrap IntKind.u32 (ari BinOp.add IntKind.i64 (ari BinOp.add IntKind.i64 i (ari BinOp.mul IntKind.i64 (256 : Int) (intAt (Array.extract ws (0 : Nat) (64 : Nat)) ((0 : Nat) + Int.toNat i * 1)))) (1 : Int)))) (4 : Nat)) == intAt (getWC ws (ari BinOp.add IntKind.i64 (ari BinOp.add IntKind.i64 i (ari BinOp.mul IntKind.i64 (256 : Int) (intAt (Array.extract ws (0 : Nat) (64 : Nat)) ((0 : Nat) + Int.toNat i * 1)))) (1 : Int))) (4 : Nat)))))) == false) = true → (Array.size ts = (144 : Nat) ∧ True) ∧ (IsInt IntKind.u32 (getC ts (IntKind.wrap IntKind.u32 (ari BinOp.add IntKind.i64 (ari BinOp.add IntKind.i64 i (ari BinOp.mul IntKind.i64 (256 : Int) (intAt (Array.extract ws (0 : Nat) (64 : Nat)) ((0 : Nat) + Int.toNat i * 1)))) (1 : Int)))) (0 : Nat) ∧ True) ∧ (TsOk ts ∧ ((0 : Int) ≤ IntKind.wrap IntKind.u32 (ari BinOp.add IntKind.i64 (ari BinOp.add IntKind.i64 i (ari BinOp.mul IntKind.i64 (256 : Int) (intAt (Array.extract ws (0 : Nat) (64 : Nat)) ((0 : Nat) + Int.toNat i * 1)))) (1 : Int)) ∧ IntKind.wrap IntKind.u32 (ari BinOp.add IntKind.i64 (ari BinOp.add IntKind.i64 i (ari BinOp.mul IntKind.i64 (256 : Int) (intAt (Array.extract ws (0 : Nat) (64 : Nat)) ((0 : Nat) + Int.toNat i * 1)))) (1 : Int)) < (4294967296 : Int)) ∧ True) ∧ (Array.size ws = (224 : Nat) ∧ True) ∧ (IsInt IntKind.u32 (getC ts (IntKind.wrap IntKind.u32 (ari BinOp.add IntKind.i64 (ari BinOp.add IntKind.i64 i (ari BinOp.mul IntKind.i64 (256 : Int) (intAt (Array.extract ws (0 : Nat) (64 : Nat)) ((0 : Nat) + Int.toNat i * 1)))) (1 : Int)))) (0 : Nat) ∧ True) ∧ (WsOk ws ∧ True) ∧ (((!readsB ts (intAt (getC ts (IntKind.wrap IntKind.u32 (ari BinOp.add IntKind.i64 (ari BinOp.add IntKind.i64 i (ari BinOp.mul IntKind.i64 (256 : Int) (intAt (Array.extract ws (0 : Nat) (64 : Nat)) ((0 : Nat) + Int.toNat i * 1)))) (1 : Int)))) (0 : Nat)) (IntKind.wrap IntKind.u32 (ari BinOp.add IntKind.i64 (ari BinOp.add IntKind.i64 i (ari BinOp.mul IntKind.i64 (256 : Int) (intAt (Array.extract ws (0 : Nat) (64 : Nat)) ((0 : Nat) + Int.toNat i * 1)))) (1 : Int))) == readsW ws (IntKind.wrap IntKind.i64 (intAt (getC ts (IntKind.wrap IntKind.u32 (ari BinOp.add IntKind.i64 (ari BinOp.add IntKind.i64 i (ari BinOp.mul IntKind.i64 (256 : Int) (intAt (Array.extract ws (0 : Nat) (64 : Nat)) ((0 : Nat) + Int.toNat i * 1)))) (1 : Int)))) (0 : Nat))) (ari BinOp.add IntKind.i64 (ari BinOp.add IntKind.i64 i (ari BinOp.mul IntKind.i64 (256 : Int) (intAt (Array.extract ws (0 : Nat) (64 : Nat)) ((0 : Nat) + Int.toNat i * 1)))) (1 : Int))) == false) = true → (Array.size ts = (144 : Nat) ∧ True) ∧ (IsInt IntKind.u32 (getC ts (IntKind.wrap IntKind.u32 (ari BinOp.add IntKind.i64 (ari BinOp.add IntKind.i64 i (ari BinOp.mul IntKind.i64 (256 : Int) (intAt (Array.extract ws (0 : Nat) (64 : Nat)) ((0 : Nat) + Int.toNat i * 1)))) (1 : Int)))) (0 : Nat) ∧ True) ∧ (TsOk ts ∧ ((0 : Int) ≤ IntKind.wrap IntKind.u32 (ari BinOp.add IntKind.i64 (ari BinOp.add IntKind.i64 i (ari BinOp.mul IntKind.i64 (256 : Int) (intAt (Array.extract ws (0 : Nat) (64 : Nat)) ((0 : Nat) + Int.toNat i * 1)))) (1 : Int)) ∧ IntKind.wrap IntKind.u32 (ari BinOp.add IntKind.i64 (ari BinOp.add IntKind.i64 i (ari BinOp.mul IntKind.i64 (256 : Int) (intAt (Array.extract ws (0 : Nat) (64 : Nat)) ((0 : Nat) + Int.toNat i * 1)))) (1 : Int)) < (4294967296 : Int)) ∧ True) ∧ (Array.size ws = (224 : Nat) ∧ True) ∧ (IsInt IntKind.u32 (getC ts (IntKind.wrap IntKind.u32 (ari BinOp.add IntKind.i64 (ari BinOp.add IntKind.i64 i (ari BinOp.mul IntKind.i64 (256 : Int) (intAt (Array.extract ws (0 : Nat) (64 : Nat)) ((0 : Nat) + Int.toNat i * 1)))) (1 : Int)))) (0 : Nat) ∧ True) ∧ (WsOk ws ∧ True) ∧ ((!writesB ts (intAt (getC ts (IntKind.wrap IntKind.u32 (ari BinOp.add IntKind.i64 (ari BinOp.add IntKind.i64 i (ari BinOp.mul IntKind.i64 (256 : Int) (intAt (Array.extract ws (0 : Nat) (64 : Nat)) ((0 : Nat) + Int.toNat i * 1)))) (1 : Int)))) (0 : Nat)) (IntKind.wrap IntKind.u32 (ari BinOp.add IntKind.i64 (ari BinOp.add IntKind.i64 i (ari BinOp.mul IntKind.i64 (256 : Int) (intAt (Array.extract ws (0 : Nat) (64 : Nat)) ((0 : Nat) + Int.toNat i * 1)))) (1 : Int))) == writesW ws (IntKind.wrap IntKind.i64 (intAt (getC ts (IntKind.wrap IntKind.u32 (ari BinOp.add IntKind.i64 (ari BinOp.add IntKind.i64 i (ari BinOp.mul IntKind.i64 (256 : Int) (intAt (Array.extract ws (0 : Nat) (64 : Nat)) ((0 : Nat) + Int.toNat i * 1)))) (1 : Int)))) (0 : Nat))) (ari BinOp.add IntKind.i64 (ari BinOp.add IntKind.i64 i (ari BinOp.mul IntKind.i64 (256 : Int) (intAt (Array.extract ws (0 : Nat) (64 : Nat)) ((0 : Nat) + Int.toNat i * 1)))) (1 : Int))) = true → false = true) ∧ ((!writesB ts (intAt (getC ts (IntKind.wrap IntKind.u32 (ari BinOp.add IntKind.i64 (ari BinOp.add IntKind.i64 i (ari BinOp.mul IntKind.i64 (256 : Int) (intAt (Array.extract ws (0 : Nat) (64 : Nat)) ((0 : Nat) + Int.toNat i * 1)))) (1 : Int)))) (0 : Nat)) (IntKind.wrap IntKind.u32 (ari BinOp.add IntKind.i64 (ari BinOp.add IntKind.i64 i (ari BinOp.mul IntKind.i64 (256 : Int) (intAt (Array.extract ws (0 : Nat) (64 : Nat)) ((0 : Nat) + Int.toNat i * 1)))) (1 : Int))) == writesW ws (IntKind.wrap IntKind.i64 (intAt (getC ts (IntKind.wrap IntKind.u32 (ari BinOp.add IntKind.i64 (ari BinOp.add IntKind.i64 i (ari BinOp.mul IntKind.i64 (256 : Int) (intAt (Array.extract ws (0 : Nat) (64 : Nat)) ((0 : Nat) + Int.toNat i * 1)))) (1 : Int)))) (0 : Nat))) (ari BinOp.add IntKind.i64 (ari BinOp.add IntKind.i64 i (ari BinOp.mul IntKind.i64 (256 : Int) (intAt (Array.extract ws (0 : Nat) (64 : Nat)) ((0 : Nat) + Int.toNat i * 1)))) (1 : Int))) = false → QsL (ari BinOp.add IntKind.i64 i (1 : Int)) ∧ CallKind.normal = CallKind.normal ∧ TodoOk (ren 0 [(0, 0), (1, 1)]) sL_d0 sL_d0 ∧ ari BinOp.add IntKind.i64 i (1 : Int) = ari BinOp.add IntKind.i64 i (1 : Int) ∧ (35 : TypeId) = (35 : TypeId) ∧ ts = ts ∧ (43 : TypeId) = (43 : TypeId) ∧ ws = ws ∧ True)) ∧ (((!readsB ts (intAt (getC ts (IntKind.wrap IntKind.u32 (ari BinOp.add IntKind.i64 (ari BinOp.add IntKind.i64 i (ari BinOp.mul IntKind.i64 (256 : Int) (intAt (Array.extract ws (0 : Nat) (64 : Nat)) ((0 : Nat) + Int.toNat i * 1)))) (1 : Int)))) (0 : Nat)) (IntKind.wrap IntKind.u32 (ari BinOp.add IntKind.i64 (ari BinOp.add IntKind.i64 i (ari BinOp.mul IntKind.i64 (256 : Int) (intAt (Array.extract ws (0 : Nat) (64 : Nat)) ((0 : Nat) + Int.toNat i * 1)))) (1 : Int))) == readsW ws (IntKind.wrap IntKind.i64 (intAt (getC ts (IntKind.wrap IntKind.u32 (ari BinOp.add IntKind.i64 (ari BinOp.add IntKind.i64 i (ari BinOp.mul IntKind.i64 (256 : Int) (intAt (Array.extract ws (0 : Nat) (64 : Nat)) ((0 : Nat) + Int.toNat i * 1)))) (1 : Int)))) (0 : Nat))) (ari BinOp.add IntKind.i64 (ari BinOp.add IntKind.i64 i (ari BinOp.mul IntKind.i64 (256 : Int) (intAt (Array.extract ws (0 : Nat) (64 : Nat)) ((0 : Nat) + Int.toNat i * 1)))) (1 : Int))) == false) = false → false = true)) ∧ (((!(IntKind.wrap IntKind.i64 (intAt (getC ts (IntKind.wrap IntKind.u32 (ari BinOp.add IntKind.i64 (ari BinOp.add IntKind.i64 i (ari BinOp.mul IntKind.i64 (256 : Int) (intAt (Array.extract ws (0 : Nat) (64 : Nat)) ((0 : Nat) + Int.toNat i * 1)))) (1 : Int)))) (0 : Nat)) == intAt (getWC ws (ari BinOp.add IntKind.i64 (ari BinOp.add IntKind.i64 i (ari BinOp.mul IntKind.i64 (256 : Int) (intAt (Array.extract ws (0 : Nat) (64 : Nat)) ((0 : Nat) + Int.toNat i * 1)))) (1 : Int))) (0 : Nat) && (IntKind.wrap IntKind.i64 (intAt (getC ts (IntKind.wrap IntKind.u32 (ari BinOp.add IntKind.i64 (ari BinOp.add IntKind.i64 i (ari BinOp.mul IntKind.i64 (256 : Int) (intAt (Array.extract ws (0 : Nat) (64 : Nat)) ((0 : Nat) + Int.toNat i * 1)))) (1 : Int)))) (1 : Nat)) == intAt (getWC ws (ari BinOp.add IntKind.i64 (ari BinOp.add IntKind.i64 i (ari BinOp.mul IntKind.i64 (256 : Int) (intAt (Array.extract ws (0 : Nat) (64 : Nat)) ((0 : Nat) + Int.toNat i * 1)))) (1 : Int))) (1 : Nat) && (IntKind.wrap IntKind.i64 (intAt (getC ts (IntKind.wrap IntKind.u32 (ari BinOp.add IntKind.i64 (ari BinOp.add IntKind.i64 i (ari BinOp.mul IntKind.i64 (256 : Int) (intAt (Array.extract ws (0 : Nat) (64 : Nat)) ((0 : Nat) + Int.toNat i * 1)))) (1 : Int)))) (2 : Nat)) == intAt (getWC ws (ari BinOp.add IntKind.i64 (ari BinOp.add IntKind.i64 i (ari BinOp.mul IntKind.i64 (256 : Int) (intAt (Array.extract ws (0 : Nat) (64 : Nat)) ((0 : Nat) + Int.toNat i * 1)))) (1 : Int))) (2 : Nat) && (boolAt (getC ts (IntKind.wrap IntKind.u32 (ari BinOp.add IntKind.i64 (ari BinOp.add IntKind.i64 i (ari BinOp.mul IntKind.i64 (256 : Int) (intAt (Array.extract ws (0 : Nat) (64 : Nat)) ((0 : Nat) + Int.toNat i * 1)))) (1 : Int)))) (3 : Nat) == boolAt (getWC ws (ari BinOp.add IntKind.i64 (ari BinOp.add IntKind.i64 i (ari BinOp.mul IntKind.i64 (256 : Int) (intAt (Array.extract ws (0 : Nat) (64 : Nat)) ((0 : Nat) + Int.toNat i * 1)))) (1 : Int))) (3 : Nat) && IntKind.wrap IntKind.i64 (intAt (getC ts (IntKind.wrap IntKind.u32 (ari BinOp.add IntKind.i64 (ari BinOp.add IntKind.i64 i (ari BinOp.mul IntKind.i64 (256 : Int) (intAt (Array.extract ws (0 : Nat) (64 : Nat)) ((0 : Nat) + Int.toNat i * 1)))) (1 : Int)))) (4 : Nat)) == intAt (getWC ws (ari BinOp.add IntKind.i64 (ari BinOp.add IntKind.i64 i (ari BinOp.mul IntKind.i64 (256 : Int) (intAt (Array.extract ws (0 : Nat) (64 : Nat)) ((0 : Nat) + Int.toNat i * 1)))) (1 : Int))) (4 : Nat)))))) == false) = false → false = true)) ∧ (((getE ts (IntKind.wrap IntKind.u32 (ari BinOp.add IntKind.i64 (ari BinOp.add IntKind.i64 i (ari BinOp.mul IntKind.i64 (256 : Int) (intAt (Array.extract ws (0 : Nat) (64 : Nat)) ((0 : Nat) + Int.toNat i * 1)))) (1 : Int))) == (0 : Int)) == true) = false → (Array.size ts = (144 : Nat) ∧ True) ∧ (IsInt IntKind.u32 (getC ts (IntKind.wrap IntKind.u32 (ari BinOp.add IntKind.i64 (ari BinOp.add IntKind.i64 i (ari BinOp.mul IntKind.i64 (256 : Int) (intAt (Array.extract ws (0 : Nat) (64 : Nat)) ((0 : Nat) + Int.toNat i * 1)))) (1 : Int)))) (0 : Nat) ∧ True) ∧ (TsOk ts ∧ ((0 : Int) ≤ IntKind.wrap IntKind.u32 (ari BinOp.add IntKind.i64 (ari BinOp.add IntKind.i64 i (ari BinOp.mul IntKind.i64 (256 : Int) (intAt (Array.extract ws (0 : Nat) (64 : Nat)) ((0 : Nat) + Int.toNat i * 1)))) (1 : Int)) ∧ IntKind.wrap IntKind.u32 (ari BinOp.add IntKind.i64 (ari BinOp.add IntKind.i64 i (ari BinOp.mul IntKind.i64 (256 : Int) (intAt (Array.extract ws (0 : Nat) (64 : Nat)) ((0 : Nat) + Int.toNat i * 1)))) (1 : Int)) < (4294967296 : Int)) ∧ True) ∧ (Array.size ws = (224 : Nat) ∧ True) ∧ (IsInt IntKind.u32 (getC ts (IntKind.wrap IntKind.u32 (ari BinOp.add IntKind.i64 (ari BinOp.add IntKind.i64 i (ari BinOp.mul IntKind.i64 (256 : Int) (intAt (Array.extract ws (0 : Nat) (64 : Nat)) ((0 : Nat) + Int.toNat i * 1)))) (1 : Int)))) (0 : Nat) ∧ True) ∧ (WsOk ws ∧ True) ∧ (((!readsB ts (intAt (getC ts (IntKind.wrap IntKind.u32 (ari BinOp.add IntKind.i64 (ari BinOp.add IntKind.i64 i (ari BinOp.mul IntKind.i64 (256 : Int) (intAt (Array.extract ws (0 : Nat) (64 : Nat)) ((0 : Nat) + Int.toNat i * 1)))) (1 : Int)))) (0 : Nat)) (IntKind.wrap IntKind.u32 (ari BinOp.add IntKind.i64 (ari BinOp.add IntKind.i64 i (ari BinOp.mul IntKind.i64 (256 : Int) (intAt (Array.extract ws (0 : Nat) (64 : Nat)) ((0 : Nat) + Int.toNat i * 1)))) (1 : Int))) == readsW ws (IntKind.wrap IntKind.i64 (intAt (getC ts (IntKind.wrap IntKind.u32 (ari BinOp.add IntKind.i64 (ari BinOp.add IntKind.i64 i (ari BinOp.mul IntKind.i64 (256 : Int) (intAt (Array.extract ws (0 : Nat) (64 : Nat)) ((0 : Nat) + Int.toNat i * 1)))) (1 : Int)))) (0 : Nat))) (ari BinOp.add IntKind.i64 (ari BinOp.add IntKind.i64 i (ari BinOp.mul IntKind.i64 (256 : Int) (intAt (Array.extract ws (0 : Nat) (64 : Nat)) ((0 : Nat) + Int.toNat i * 1)))) (1 : Int))) == false) = true → (Array.size ts = (144 : Nat) ∧ True) ∧ (IsInt IntKind.u32 (getC ts (IntKind.wrap IntKind.u32 (ari BinOp.add IntKind.i64 (ari BinOp.add IntKind.i64 i (ari BinOp.mul IntKind.i64 (256 : Int) (intAt (Array.extract ws (0 : Nat) (64 : Nat)) ((0 : Nat) + Int.toNat i * 1)))) (1 : Int)))) (0 : Nat) ∧ True) ∧ (TsOk ts ∧ ((0 : Int) ≤ IntKind.wrap IntKind.u32 (ari BinOp.add IntKind.i64 (ari BinOp.add IntKind.i64 i (ari BinOp.mul IntKind.i64 (256 : Int) (intAt (Array.extract ws (0 : Nat) (64 : Nat)) ((0 : Nat) + Int.toNat i * 1)))) (1 : Int)) ∧ IntKind.wrap IntKind.u32 (ari BinOp.add IntKind.i64 (ari BinOp.add IntKind.i64 i (ari BinOp.mul IntKind.i64 (256 : Int) (intAt (Array.extract ws (0 : Nat) (64 : Nat)) ((0 : Nat) + Int.toNat i * 1)))) (1 : Int)) < (4294967296 : Int)) ∧ True) ∧ (Array.size ws = (224 : Nat) ∧ True) ∧ (IsInt IntKind.u32 (getC ts (IntKind.wrap IntKind.u32 (ari BinOp.add IntKind.i64 (ari BinOp.add IntKind.i64 i (ari BinOp.mul IntKind.i64 (256 : Int) (intAt (Array.extract ws (0 : Nat) (64 : Nat)) ((0 : Nat) + Int.toNat i * 1)))) (1 : Int)))) (0 : Nat) ∧ True) ∧ (WsOk ws ∧ True) ∧ ((!writesB ts (intAt (getC ts (IntKind.wrap IntKind.u32 (ari BinOp.add IntKind.i64 (ari BinOp.add IntKind.i64 i (ari BinOp.mul IntKind.i64 (256 : Int) (intAt (Array.extract ws (0 : Nat) (64 : Nat)) ((0 : Nat) + Int.toNat i * 1)))) (1 : Int)))) (0 : Nat)) (IntKind.wrap IntKind.u32 (ari BinOp.add IntKind.i64 (ari BinOp.add IntKind.i64 i (ari BinOp.mul IntKind.i64 (256 : Int) (intAt (Array.extract ws (0 : Nat) (64 : Nat)) ((0 : Nat) + Int.toNat i * 1)))) (1 : Int))) == writesW ws (IntKind.wrap IntKind.i64 (intAt (getC ts (IntKind.wrap IntKind.u32 (ari BinOp.add IntKind.i64 (ari BinOp.add IntKind.i64 i (ari BinOp.mul IntKind.i64 (256 : Int) (intAt (Array.extract ws (0 : Nat) (64 : Nat)) ((0 : Nat) + Int.toNat i * 1)))) (1 : Int)))) (0 : Nat))) (ari BinOp.add IntKind.i64 (ari BinOp.add IntKind.i64 i (ari BinOp.mul IntKind.i64 (256 : Int) (intAt (Array.extract ws (0 : Nat) (64 : Nat)) ((0 : Nat) + Int.toNat i * 1)))) (1 : Int))) = true → false = true) ∧ ((!writesB ts (intAt (getC ts (IntKind.wrap IntKind.u32 (ari BinOp.add IntKind.i64 (ari BinOp.add IntKind.i64 i (ari BinOp.mul IntKind.i64 (256 : Int) (intAt (Array.extract ws (0 : Nat) (64 : Nat)) ((0 : Nat) + Int.toNat i * 1)))) (1 : Int)))) (0 : Nat)) (IntKind.wrap IntKind.u32 (ari BinOp.add IntKind.i64 (ari BinOp.add IntKind.i64 i (ari BinOp.mul IntKind.i64 (256 : Int) (intAt (Array.extract ws (0 : Nat) (64 : Nat)) ((0 : Nat) + Int.toNat i * 1)))) (1 : Int))) == writesW ws (IntKind.wrap IntKind.i64 (intAt (getC ts (IntKind.wrap IntKind.u32 (ari BinOp.add IntKind.i64 (ari BinOp.add IntKind.i64 i (ari BinOp.mul IntKind.i64 (256 : Int) (intAt (Array.extract ws (0 : Nat) (64 : Nat)) ((0 : Nat) + Int.toNat i * 1)))) (1 : Int)))) (0 : Nat))) (ari BinOp.add IntKind.i64 (ari BinOp.add IntKind.i64 i (ari BinOp.mul IntKind.i64 (256 : Int) (intAt (Array.extract ws (0 : Nat) (64 : Nat)) ((0 : Nat) + Int.toNat i * 1)))) (1 : Int))) = false → QsL (ari BinOp.add IntKind.i64 i (1 : Int)) ∧ CallKind.normal = CallKind.normal ∧ TodoOk (ren 0 [(0, 0), (1, 1)]) sL_d0 sL_d0 ∧ ari BinOp.add IntKind.i64 i (1 : Int) = ari BinOp.add IntKind.i64 i (1 : Int) ∧ (35 : TypeId) = (35 : TypeId) ∧ ts = ts ∧ (43 : TypeId) = (43 : TypeId) ∧ ws = ws ∧ True)) ∧ (((!readsB ts (intAt (getC ts (IntKind.wrap IntKind.u32 (ari BinOp.add IntKind.i64 (ari BinOp.add IntKind.i64 i (ari BinOp.mul IntKind.i64 (256 : Int) (intAt (Array.extract ws (0 : Nat) (64 : Nat)) ((0 : Nat) + Int.toNat i * 1)))) (1 : Int)))) (0 : Nat)) (IntKind.wrap IntKind.u32 (ari BinOp.add IntKind.i64 (ari BinOp.add IntKind.i64 i (ari BinOp.mul IntKind.i64 (256 : Int) (intAt (Array.extract ws (0 : Nat) (64 : Nat)) ((0 : Nat) + Int.toNat i * 1)))) (1 : Int))) == readsW ws (IntKind.wrap IntKind.i64 (intAt (getC ts (IntKind.wrap IntKind.u32 (ari BinOp.add IntKind.i64 (ari BinOp.add IntKind.i64 i (ari BinOp.mul IntKind.i64 (256 : Int) (intAt (Array.extract ws (0 : Nat) (64 : Nat)) ((0 : Nat) + Int.toNat i * 1)))) (1 : Int)))) (0 : Nat))) (ari BinOp.add IntKind.i64 (ari BinOp.add IntKind.i64 i (ari BinOp.mul IntKind.i64 (256 : Int) (intAt (Array.extract ws (0 : Nat) (64 : Nat)) ((0 : Nat) + Int.toNat i * 1)))) (1 : Int))) == false) = false → false = true))) ∧ (((getE ts (IntKind.wrap IntKind.u32 (ari BinOp.add IntKind.i64 (ari BinOp.add IntKind.i64 i (ari BinOp.mul IntKind.i64 (256 : Int) (intAt (Array.extract ws (0 : Nat) (64 : Nat)) ((0 : Nat) + Int.toNat i * 1)))) (1 : Int))) != getWE ws (ari BinOp.add IntKind.i64 (ari BinOp.add IntKind.i64 i (ari BinOp.mul IntKind.i64 (256 : Int) (intAt (Array.extract ws (0 : Nat) (64 : Nat)) ((0 : Nat) + Int.toNat i * 1)))) (1 : Int))) == false) = false → false = true)) ∧ (decide (i < (32 : Int)) = false → true = true)) := by kernel_rfl
theorem sl0_vc (ts : Array Value) (ws : Array Value) (QsL : Int → Prop) : (sl0_t ts ws).vc ((isB true)) (sl0_x ts ws QsL) =
    (QsL (0 : Int) ∧ CallKind.normal = CallKind.normal ∧ TodoOk (ren 0 [(0, 0), (1, 1)]) sL_d0 sL_d0 ∧ (0 : Int) = (0 : Int) ∧ (35 : TypeId) = (35 : Nat) ∧ ts = ts ∧ (43 : TypeId) = (43 : Nat) ∧ ws = ws ∧ True) := by kernel_rfl
theorem nm0 (ws : Array Value) (n o : Int) : (run EN 1000 0 [callFr 6 Try.f6.ntmps [wsS ws, u32 n] (Try.f6.body.getD .skip)] e0M).vc (retOk 0 [] (i64 (.o o)) e0M) (fun _ _ => False) =
    (((decide (n ≥ (1 : Int)) == true) = true → ((decide (n ≤ (16 : Int)) == true) = true → (((0 : Int) ≤ ari BinOp.sub IntKind.u32 n (1 : Int) ∧ ari BinOp.sub IntKind.u32 n (1 : Int) < (32 : Int)) ∧ True) ∧ (IsInt IntKind.i64 ws ((32 : Nat) + Int.toNat (ari BinOp.sub IntKind.u32 n (1 : Int)) * 1) ∧ True) ∧ ((intAt ws ((32 : Nat) + Int.toNat (ari BinOp.sub IntKind.u32 n (1 : Int)) * 1) == (1 : Int)) = true → ((64 : Nat) ≤ Array.size ws ∧ True) ∧ (((0 : Int) ≤ IntKind.wrap IntKind.i64 (ari BinOp.sub IntKind.u32 n (1 : Int)) ∧ IntKind.wrap IntKind.i64 (ari BinOp.sub IntKind.u32 n (1 : Int)) < (32 : Int)) ∧ True) ∧ (IsInt IntKind.i64 (Array.extract ws (0 : Nat) (64 : Nat)) ((0 : Nat) + Int.toNat (IntKind.wrap IntKind.i64 (ari BinOp.sub IntKind.u32 n (1 : Int))) * 1) ∧ True) ∧ o = ari BinOp.add IntKind.i64 (ari BinOp.add IntKind.i64 (IntKind.wrap IntKind.i64 (ari BinOp.sub IntKind.u32 n (1 : Int))) (ari BinOp.mul IntKind.i64 (256 : Int) (intAt (Array.extract ws (0 : Nat) (64 : Nat)) ((0 : Nat) + Int.toNat (IntKind.wrap IntKind.i64 (ari BinOp.sub IntKind.u32 n (1 : Int))) * 1)))) (1 : Int) ∧ True) ∧ ((intAt ws ((32 : Nat) + Int.toNat (ari BinOp.sub IntKind.u32 n (1 : Int)) * 1) == (1 : Int)) = false → o = IntKind.wrap IntKind.i64 n ∧ True)) ∧ ((decide (n ≤ (16 : Int)) == true) = false → o = IntKind.wrap IntKind.i64 n ∧ True)) ∧ ((decide (n ≥ (1 : Int)) == true) = false → o = IntKind.wrap IntKind.i64 n ∧ True)) := by kernel_rfl
end Go.Proofs.Ytnjmockpdmchcaa
/- Of token: the closed test. No condition. -/
namespace Go.Proofs.Ytnjmockpdmchcaa
set_option maxRecDepth 1000000 in
theorem wakes_fast : (runC E0 200000 0 [callFr 5 Try.f5.ntmps [] (Try.f5.body.getD .skip)] ⟨0, .nil, []⟩).allTrue = true := by kernel_rfl
theorem wakes_true : (run E0 200000 0 [callFr 5 Try.f5.ntmps [] (Try.f5.body.getD .skip)] ⟨0, .nil, []⟩).allTrue = true := by
  rw [← runC_eq]
  exact wakes_fast
theorem wakes_fn : E0.fn 5 = some Try.f5 := by kernel_rfl
theorem wakes_body : Try.f5.body = some (Try.f5.body.getD .skip) := by kernel_rfl
theorem wakes_con (m : SMem) : Con E0 5 [] m (needs [] (.ret (sB (.l true)) m)) :=
  Con.pure E0_ok wakes_fn wakes_body (by kernel_rfl) (by kernel_rfl) fun _ => good_true E0_ok wakes_true
end Go.Proofs.Ytnjmockpdmchcaa
/- Of token: TokenOneWriter: the law's states. No condition. -/
namespace Go.Proofs.Ytnjmockpdmchcaa
set_option linter.unusedVariables false
noncomputable def acS (off n : Nat) : SV := .s (.c (.f (.slice 0 (.o off) (.o n) .any)))
noncomputable def eS : SV := .s (.c (.f .e0))
noncomputable def conL (g : FuncId) (l : List SV) (m : SMem) : Option Tree := match g, l with
  | 5, [] => some (.ret (sB (.l true)) m)
  | 7, [.s (.agg (.op ts)), .s (.c (.f (.int .u32 h)))] => some (.need [TsOk ts, inH h.den] (retTree ts h.den m))
  | 10, [.s (.agg (.op ts)), .s (.c (.f (.int .u32 r)))] => some (.need [TsOk ts] (.ret (tkS (clearT ts r.den)) m))
  | 12, [.s (.agg (.op ts)), .s (.agg (.ls [.f (.int .u32 r), .f (.int .u8 b), .f (.int .u8 t), .f (.bool mu), .f (.int .u32 a)]))] => some (.need [TsOk ts, inH a.den] (.ret (.tup [.agg (.op (lendT ts r.den b.den t.den mu.den a.den)), .c (.f (.int .u32 (.o (lendI ts r.den b.den t.den mu.den a.den)))), .c (.f (.int .i64 (.o (lendE ts r.den b.den t.den mu.den a.den))))]) m))
  | g, l => conU 0 g l m
end Go.Proofs.Ytnjmockpdmchcaa
/- Of token: the law's Same and name: contracts. No condition. -/
namespace Go.Proofs.Ytnjmockpdmchcaa
set_option maxRecDepth 100000
set_option linter.unusedSimpArgs false
set_option linter.unusedVariables false
section
variable {ts ws : Array Value}
theorem conS_ok : ∀ g l m t, conS g l m = some t → Con E0 g l m t := by
  intro g l m t h
  unfold conS at h
  split at h
  · rename_i t' e
    cases h
    exact conD1_ok _ _ _ _ e
  · exact conU_ok 0 _ _ _ _ h
theorem ES_ok : EnvOk ES := EnvOk.with E0_ok _ _ conS_ok
theorem EN_ok : EnvOk EN := EnvOk.with E0_ok _ _ conD0_ok
theorem get_t (h : SameT ts ws) (y : Int) : (getC ts y).size = 5 ∧ (getWC ws y).size = 5 ∧ getE ts y = getWE ws y ∧ IsInt .u32 (getC ts y) 0 ∧ IsInt .u8 (getC ts y) 1 ∧ IsInt .u8 (getC ts y) 2 ∧ IsBool (getC ts y) 3 ∧ IsInt .u32 (getC ts y) 4 ∧ IsInt .i64 (getWC ws y) 0 ∧ IsInt .i64 (getWC ws y) 1 ∧ IsInt .i64 (getWC ws y) 2 ∧ IsBool (getWC ws y) 3 ∧ IsInt .i64 (getWC ws y) 4 := by
  have st := slot_t h.ok h.c y
  cases c : goodB (bkT ts) y with
  | true =>
    rw [c, if_pos rfl] at st
    have e1 : getC ts y = #[.int .u32 (tR ts (sl y)), .int .u8 (tB ts (sl y)), .int .u8 (tT ts (sl y)), .bool (tM ts (sl y)), .int .u32 (tA ts (sl y))] := by unfold getC; rw [if_pos c]
    have e2 : getWC ws y = #[.int .i64 (wC ws (sl y) 0), .int .i64 (wC ws (sl y) 1), .int .i64 (wC ws (sl y) 2), .bool (wM ws (sl y)), .int .i64 (wC ws (sl y) 4)] := by unfold getWC; rw [if_neg (by omega), st]; rfl
    have e3 : getE ts y = 0 := by unfold getE; rw [if_pos c]
    have e4 : getWE ws y = 0 := by unfold getWE; rw [if_neg (by omega)]
    rw [e1, e2, e3, e4]
    exact ⟨rfl, rfl, rfl, rfl, rfl, rfl, rfl, rfl, rfl, rfl, rfl, rfl, rfl⟩
  | false =>
    rw [c, if_neg (by simp)] at st
    have e1 : getC ts y = #[.int .u32 0, .int .u8 0, .int .u8 0, .bool false, .int .u32 0] := by unfold getC; rw [if_neg (by rw [c]; simp)]
    have e2 : getWC ws y = #[.int .i64 0, .int .i64 0, .int .i64 0, .bool false, .int .i64 0] := by unfold getWC; rw [if_pos (by omega)]
    have e3 : getE ts y = 4 := by unfold getE; rw [if_neg (by rw [c]; simp)]
    have e4 : getWE ws y = 4 := by unfold getWE; rw [if_pos (by omega)]
    rw [e1, e2, e3, e4]
    exact ⟨rfl, rfl, rfl, rfl, rfl, rfl, rfl, rfl, rfl, rfl, rfl, rfl, rfl⟩
theorem get_same (h : SameT ts ws) (y : Int) : intAt (getWC ws y) 0 = intAt (getC ts y) 0 ∧ intAt (getWC ws y) 1 = intAt (getC ts y) 1 ∧ intAt (getWC ws y) 2 = intAt (getC ts y) 2 ∧ boolAt (getWC ws y) 3 = boolAt (getC ts y) 3 ∧ intAt (getWC ws y) 4 = intAt (getC ts y) 4 ∧ inH (intAt (getC ts y) 0) ∧ (0 ≤ intAt (getC ts y) 1 ∧ intAt (getC ts y) 1 ≤ 255) ∧ (0 ≤ intAt (getC ts y) 2 ∧ intAt (getC ts y) 2 ≤ 255) ∧ inH (intAt (getC ts y) 4) := by
  have st := slot_t h.ok h.c y
  cases c : goodB (bkT ts) y with
  | true =>
    rw [c, if_pos rfl] at st
    have e1 : getC ts y = #[.int .u32 (tR ts (sl y)), .int .u8 (tB ts (sl y)), .int .u8 (tT ts (sl y)), .bool (tM ts (sl y)), .int .u32 (tA ts (sl y))] := by unfold getC; rw [if_pos c]
    have e2 : getWC ws y = #[.int .i64 (wC ws (sl y) 0), .int .i64 (wC ws (sl y) 1), .int .i64 (wC ws (sl y) 2), .bool (wM ws (sl y)), .int .i64 (wC ws (sl y) 4)] := by unfold getWC; rw [if_neg (by omega), st]; rfl
    obtain ⟨s1, s2, s3, s4, s5, s6, s7, s8⟩ := good_slot h.ok c
    obtain ⟨t0, t1, t2, t3, t4⟩ := h.c.t _ s3 s5
    have hk := h.ok.tk _ s3
    rw [e1, e2]
    exact ⟨t0, t1, t2, t3, t4, hk.hr, hk.hb, hk.ht, hk.ha⟩
  | false =>
    rw [c, if_neg (by simp)] at st
    have e1 : getC ts y = #[.int .u32 0, .int .u8 0, .int .u8 0, .bool false, .int .u32 0] := by unfold getC; rw [if_neg (by rw [c]; simp)]
    have e2 : getWC ws y = #[.int .i64 0, .int .i64 0, .int .i64 0, .bool false, .int .i64 0] := by unfold getWC; rw [if_pos (by omega)]
    rw [e1, e2]
    exact ⟨rfl, rfl, rfl, rfl, rfl, ⟨by decide, by decide⟩, ⟨by decide, by decide⟩, ⟨by decide, by decide⟩, ⟨by decide, by decide⟩⟩
theorem i64_h {n : Int} (h : inH n) : IntKind.i64.wrap n = n := by
  unfold inH at h
  exact i64_in' (by omega) (by omega)
theorem u32_h {n : Int} (h : inH n) : IntKind.u32.wrap n = n := by
  unfold inH at h
  exact u32_in (by omega) (by omega)
theorem sL_ok (h : SameT ts ws) : ∀ (k i : Nat), i + k = 32 → Good Try.prog (isB true) 0 (sL_F ts ws (i : Int)) (sL_M ts ws (i : Int)) := by
  intro k
  induction k with
  | zero =>
    intro i hi
    obtain rfl : i = 32 := by omega
    refine past_vc ES_ok 1000 (sl1_vc ts ws ((32 : Nat) : Int) (fun _ => False)) ?_ (fun _ _ h => h) (fun fs m hb => sl1_go (fun _ h => h.elim) hb)
    have d : decide (((32 : Nat) : Int) < 32) = false := rfl
    simp only [d, true_implies, Bool.true_eq_false, Bool.false_eq_true, false_implies, and_true, true_and]
  | succ k ih =>
    intro i hi
    refine past_vc ES_ok 1000 (sl1_vc ts ws (i : Int) (fun i' => i' = ((i + 1 : Nat) : Int))) ?_ (fun _ _ h => h) (fun fs m hb => sl1_go (fun i' e => by rw [e]; exact ih (i + 1) (by omega)) hb)
    have d : decide ((i : Int) < 32) = true := decide_eq_true (by omega)
    have ei : ari .add .i64 (i : Int) 1 = ((i + 1 : Nat) : Int) := by rw [ari_add, i64_in' (by omega) (by omega)]; omega
    have hi32 : i < 32 := by omega
    have hw := h.w
    have hts := h.ok
    have g1 : IsInt .i64 (ws.extract 0 64) i := hw.rb.c i (by omega)
    have g2 : intAt (ws.extract 0 64) i = genW (rbT ws) i := rfl
    have hrg := hw.rb.rg i hi32
    have hof := ofW_run hi32 hrg
    have hx0 : 0 ≤ (i : Int) := by omega
    have hx1 : (i : Int) < 32 := by omega
    have hs := hw.sz
    have ht := hts.sz
    have h64 : (64 : Nat) ≤ 224 := by decide
    simp only [Int.toNat_natCast, Nat.mul_one, Nat.zero_add, d, ei, g1, g2, hof, hx0, hx1]
    have hyb : 0 ≤ nameI i (genW (rbT ws) i) ∧ nameI i (genW (rbT ws) i) < 4294967296 := by unfold nameI; omega
    have hu : IntKind.u32.wrap (nameI i (genW (rbT ws) i)) = nameI i (genW (rbT ws) i) := u32_h hyb
    simp only [hu]
    generalize nameI i (genW (rbT ws) i) = y at hyb
    obtain ⟨z1, z2, z3, z4, z5, z6, z7, z8, z9, z10, z11, z12, z13⟩ := get_t h y
    obtain ⟨w0, w1, w2, w3, w4, b0, b1, b2, b4⟩ := get_same h y
    have u0 := i64_h b0
    have u4 := i64_h b4
    have u1 : IntKind.i64.wrap (intAt (getC ts y) 1) = intAt (getC ts y) 1 := i64_in' (by omega) (by omega)
    have u2 : IntKind.i64.wrap (intAt (getC ts y) 2) = intAt (getC ts y) 2 := i64_in' (by omega) (by omega)
    have hr := fun r a => reads_t (r := r) (a := a) hts h.c
    have hwr := fun r a => writes_t (r := r) (a := a) hts h.c
    simp only [reads_t hts h.c, writes_t hts h.c, hs, ht, h64, hw, hts, z1, z2, ← z3, z4, z5, z6, z7, z8, z9, z10, z11, z12, z13, w0, w1, w2, w3, w4, u0, u1, u2, u4, hyb, beqT, beqF, beq_self_eq_true, bne_self_eq_false, Bool.and_self, decide_true, Bool.not_true, Bool.not_false, true_implies, and_true, true_and, Bool.true_eq_false, Bool.false_eq_true, false_implies, sL_d0_ok]
    exact ⟨fun _ => trivial, fun _ => trivial⟩
theorem isB_ok {b : Bool} {s : SV} {m : SMem} {R R' : Ren} {v : Value} (hs : isB b s m) (hv : s.ok R v) : (sB (.l b)).ok R' v := by
  unfold isB at hs
  split at hs
  · have hv : v = .bool _ := hv
    rw [hv, hs]; rfl
  · exact hs.elim
theorem same_con (ts ws : Array Value) (m : SMem) : Con E0 15 [tkS ts, wsS ws] m (needs [SameT ts ws] (.ret (sB (.l true)) m)) := by
  refine Con.readV (ms := e0M) (l' := [tkS ts, wsS ws]) E0_ok (by kernel_rfl : E0.fn 15 = some Try.f15) (by kernel_rfl : Try.f15.body = some (Try.f15.body.getD .skip)) rfl (fun _ => 0) (fun q b hb => by cases hb) (fun R vs hv => ok_anys (by kernel_rfl) hv) (A := isB true) (fun hq => ?_) (fun s m' R R' v hs hv => isB_ok hs hv)
  have h : SameT ts ws := hq _ (by simp)
  refine run_vc ES_ok 1000 (sl0_vc ts ws (fun i => i = ((0 : Nat) : Int))) ?_ (fun s m h => h) fun fs m hm => sl0_go (fun i e => by rw [e]; exact sL_ok h 32 0 (by omega)) hm
  simp only [and_true, true_and, sL_d0_ok]
  repeat' first | exact rfl | exact trivial | apply And.intro
def nameW (ws : Array Value) (n : Int) : Int := if 1 ≤ n ∧ n ≤ 16 ∧ isW (rbT ws) (n - 1).toNat = 1 then nameI (n - 1).toNat (genW (rbT ws) (n - 1).toNat) else n
theorem nameW_in (hw : WsOk ws) {n : Int} (hn : inH n) : inH (nameW ws n) := by
  unfold nameW
  split
  · rename_i c
    have := hw.rb.rg (n - 1).toNat (by omega)
    unfold inH nameI
    omega
  · exact hn
theorem name_con (n : Int) (m : SMem) : Con E0 6 [wsS ws, u32 n] m (needs [WsOk ws, inH n] (.ret (i64 (.o (nameW ws n))) m)) := by
  refine Con.pure E0_ok (by kernel_rfl : E0.fn 6 = some Try.f6) (by kernel_rfl : Try.f6.body = some (Try.f6.body.getD .skip)) (by kernel_rfl) (by kernel_rfl) fun hq => ?_
  have hw : WsOk ws := hq _ (by simp)
  have hn : inH n := hq _ (by simp)
  refine (Good.ret [] (run_vc EN_ok 1000 (nm0 ws n (nameW ws n)) ?_ (fun s m h => h) fun _ _ h => h.elim)).mono fun _ _ h => h.1
  have hi := i64_h hn
  have hle : 64 ≤ ws.size := by rw [hw.sz]; decide
  by_cases c1 : 1 ≤ n
  · by_cases c2 : n ≤ 16
    · have es : ari .sub .u32 n 1 = (((n - 1).toNat : Nat) : Int) := by rw [ari_sub, u32_in (by omega) (by omega)]; omega
      have hi32 : (n - 1).toNat < 32 := by omega
      have ew : IntKind.i64.wrap (((n - 1).toNat : Nat) : Int) = (((n - 1).toNat : Nat) : Int) := i64_in' (by omega) (by omega)
      obtain ⟨q1, q2⟩ := is_cell hw hi32
      have hof := ofW_run hi32 (hw.rb.rg _ hi32)
      have g1 : IsInt .i64 (ws.extract 0 64) (n - 1).toNat := hw.rb.c _ (by omega)
      have g2 : intAt (ws.extract 0 64) (n - 1).toNat = genW (rbT ws) (n - 1).toNat := rfl
      have hx0 : 0 ≤ (((n - 1).toNat : Nat) : Int) := by omega
      have hx1 : (((n - 1).toNat : Nat) : Int) < 32 := by omega
      have d1 : decide (n ≥ 1) = true := decide_eq_true (by omega)
      have d2 : decide (n ≤ 16) = true := decide_eq_true c2
      cases c3 : (isW (rbT ws) (n - 1).toNat == 1) with
      | true =>
        have e : nameW ws n = nameI (n - 1).toNat (genW (rbT ws) (n - 1).toNat) := by unfold nameW; rw [if_pos ⟨c1, c2, by simpa using c3⟩]
        simp only [es, ew, d1, d2, e, Int.toNat_natCast, Nat.mul_one, Nat.zero_add, q1, q2, g1, g2, hof, hx0, hx1, hle, c3, beqT, true_implies, and_true, true_and, Bool.true_eq_false, Bool.false_eq_true, false_implies]
      | false =>
        have e : nameW ws n = n := by unfold nameW; rw [if_neg]; intro ⟨_, _, k⟩; rw [k] at c3; cases c3
        simp only [es, ew, d1, d2, e, hi, Int.toNat_natCast, Nat.mul_one, Nat.zero_add, q1, q2, g1, g2, hof, hx0, hx1, hle, c3, beqT, true_implies, and_true, true_and, Bool.true_eq_false, Bool.false_eq_true, false_implies]
    · have e : nameW ws n = n := by unfold nameW; rw [if_neg (fun k => c2 k.2.1)]
      have d1 : decide (n ≥ 1) = true := decide_eq_true (by omega)
      have d2 : decide (n ≤ 16) = false := decide_eq_false c2
      simp only [d1, d2, e, hi, beqT, true_implies, and_true, true_and, Bool.true_eq_false, Bool.false_eq_true, false_implies]
  · have e : nameW ws n = n := by unfold nameW; rw [if_neg (fun k => c1 k.1)]
    have d1 : decide (n ≥ 1) = false := decide_eq_false (by omega)
    simp only [d1, e, hi, beqT, true_implies, and_true, true_and, Bool.true_eq_false, Bool.false_eq_true, false_implies]
end
end Go.Proofs.Ytnjmockpdmchcaa
/- Of token: the law's row: its contract. No condition. -/
namespace Go.Proofs.Ytnjmockpdmchcaa
set_option maxRecDepth 100000
set_option linter.unusedSimpArgs false
set_option linter.unusedVariables false
theorem ERo_ok : EnvOk ERo := EnvOk.with E0_ok _ _ conD0_ok
theorem ERn_ok : EnvOk ERn := EnvOk.with E0_ok _ _ conD0_ok
theorem wR_ok {l : List Int} (hn : l.length ≤ 32) (hl : ∀ y ∈ l, inH y) : ∀ (k i : Nat), i + k = l.length → Good Try.prog (isB true) 2 (wR_F l.length (u32s l) (i64s l) (i : Int)) (wR_M l.length (u32s l) (i64s l) (i : Int)) := by
  intro k
  induction k with
  | zero =>
    intro i hi
    refine past_vc ERo_ok 1000 (wr1_vc l.length (u32s l) (i64s l) (i : Int) (fun _ => False)) ?_ (fun _ _ h => h) (fun fs m hb => wr1_go (fun _ h => h.elim) hb)
    have d : decide ((i : Int) < (l.length : Int)) = false := decide_eq_false (by omega)
    simp only [d, true_implies, Bool.true_eq_false, Bool.false_eq_true, false_implies, and_true, true_and]
  | succ k ih =>
    intro i hi
    refine past_vc ERo_ok 1000 (wr1_vc l.length (u32s l) (i64s l) (i : Int) (fun i' => i' = ((i + 1 : Nat) : Int))) ?_ (fun _ _ h => h) (fun fs m hb => wr1_go (fun i' e => by rw [e]; exact ih (i + 1) (by omega)) hb)
    have d : decide ((i : Int) < (l.length : Int)) = true := decide_eq_true (by omega)
    have ei : ari .add .i64 (i : Int) 1 = ((i + 1 : Nat) : Int) := by rw [ari_add, i64_in' (by omega) (by omega)]; omega
    have hi' : i < l.length := by omega
    have g1 : IsInt .u32 (u32s l) i := isI_of (u32s_at hi')
    have g2 : intAt (u32s l) i = l.getD i 0 := intAt_of (u32s_at hi')
    have g3 : IsInt .i64 (i64s l) i := isI_of (i64s_at hi')
    have g4 : intAt (i64s l) i = l.getD i 0 := intAt_of (i64s_at hi')
    have hw : IntKind.i64.wrap (l.getD i 0) = l.getD i 0 := i64_h (hl _ (by rw [List.getD_eq_getElem?_getD, List.getElem?_eq_getElem hi']; exact List.getElem_mem _))
    have hx0 : 0 ≤ (i : Int) := by omega
    have hx1 : (i : Int) < (l.length : Int) := by omega
    simp only [Int.toNat_natCast, Nat.mul_one, Nat.zero_add, d, ei, g1, g2, g3, g4, hw, hx0, hx1, bne_self_eq_false, decide_true, true_implies, and_true, true_and, Bool.true_eq_false, Bool.false_eq_true, false_implies, wR_d0_ok]
theorem fn9 : E0.fn 9 = some Try.f9 := by kernel_rfl
theorem body9 : Try.f9.body = some (Try.f9.body.getD .skip) := by kernel_rfl
theorem row_con {m : SMem} {i j : Nat} {n1 n2 : SN} {l : List Int} {w1 w2 : Bool} (e1 : n1.den = l.length) (e2 : n2.den = l.length) (hb1 : getB m.bl i = some ⟨.pop (u32s l), 30, w1⟩) (hb2 : getB m.bl j = some ⟨.pop (i64s l), 3, w2⟩) : Con E0 9 [.s (.c (.f (.slice i (.l 0) n1 (.full 1)))), .s (.c (.f (.slice j (.l 0) n2 (.full 1))))] m (needs [l.length ≤ 32, ∀ y, List.Mem y l → inH y] (.ret (sB (.l true)) m)) := by
  have hm : ∀ q b, getB (roM (u32s l) (i64s l)).bl q = some b → q < (roM (u32s l) (i64s l)).next ∧ b.wr = false ∧ ∃ d, getB m.bl ((fun q => if q = 0 then i else j) q) = some d ∧ b.ty = d.ty ∧ ∀ R cs, d.arr.okM R cs → b.arr.okM (pull (fun q => if q = 0 then i else j) (roM (u32s l) (i64s l)).next R) cs := by
    intro q b hb
    have hb : (mkBl [(0, ⟨.pop (u32s l), 30, false⟩), (1, ⟨.pop (i64s l), 3, false⟩)]).get q = some b := hb
    unfold mkBl at hb
    simp only [List.foldl, Tr.get_set, Tr.get_nil] at hb
    split at hb
    · rename_i e
      cases hb
      subst e
      exact ⟨(show 1 < 2 by decide), rfl, _, hb2, rfl, fun R cs h => h⟩
    · split at hb
      · rename_i e
        cases hb
        subst e
        exact ⟨(show 0 < 2 by decide), rfl, _, hb1, rfl, fun R cs h => h⟩
      · cases hb
  have hl : ∀ R vs, All2 (SV.ok R) [.s (.c (.f (.slice i (.l 0) n1 (.full 1)))), .s (.c (.f (.slice j (.l 0) n2 (.full 1))))] vs → All2 (SV.ok (pull (fun q => if q = 0 then i else j) (roM (u32s l) (i64s l)).next R)) [r0S l.length, r1S l.length] vs := by
    intro R vs ha
    match vs, ha with
    | [u, v], ha =>
      obtain ⟨⟨g, cp, k1, k2, k3, k4⟩, ⟨g', cp', k1', k2', k3', k4'⟩, _⟩ := ha
      refine ⟨⟨g, cp, by unfold pull; exact k1, by rw [k2, e1], k3, by rw [e1] at k4; exact k4⟩, ⟨g', cp', by unfold pull; exact k1', by rw [k2', e2], k3', by rw [e2] at k4'; exact k4'⟩, trivial⟩
  refine Con.readV E0_ok (l' := [r0S l.length, r1S l.length]) (ms := roM (u32s l) (i64s l)) (A := isB true) fn9 body9 rfl (fun q => if q = 0 then i else j) hm hl (fun hq => ?_) (fun s m' R R' v hs hv => isB_ok hs hv)
  have hlen : l.length ≤ 32 := hq _ (by simp)
  have hin : ∀ y ∈ l, inH y := hq (∀ y, List.Mem y l → inH y) (List.mem_cons_of_mem _ (List.mem_singleton.2 rfl))
  refine run_vc ERo_ok 1000 (wr0_vc l.length (u32s l) (i64s l) (fun i => i = ((0 : Nat) : Int))) ?_ (fun s m h => h) fun fs m hb => wr0_go (fun i e => by rw [e]; exact wR_ok hlen hin l.length 0 (by omega)) hb
  simp only [bne_self_eq_false, Bool.false_eq_true, false_implies, true_implies, and_true, true_and, wR_d0_ok]
  rfl
theorem row_nil (m : SMem) : Con E0 9 [.s (.c (.f (.lit (.slice none 0 0)))), .s (.c (.f (.lit (.slice none 0 0))))] m (.ret (sB (.l true)) m) := by
  refine (show Con E0 9 _ m (needs [] _) from Con.readV (ms := e0M) (l' := [.s (.c (.f (.lit (.slice none 0 0)))), .s (.c (.f (.lit (.slice none 0 0))))]) E0_ok fn9 body9 rfl (fun _ => 0) (fun q b hb => by cases hb) (fun R vs hv => ok_anys (by kernel_rfl) hv) (A := isB true) (fun hq => ?_) (fun s m' R R' v hs hv => isB_ok hs hv))
  exact run_vc ERn_ok 1000 (wrn_vc 0) rfl (fun s m h => h) fun fs m hb => hb.elim
end Go.Proofs.Ytnjmockpdmchcaa
/- Of token: TokenPlays: the law's states. No condition. -/
namespace Go.Proofs.Ytnjmockpdmchcaa
set_option linter.unusedVariables false
def InL (l : List Int) : Prop := ∀ y ∈ l, inH y
def InR (rs : Array Value) : Prop := InL (ints rs)
noncomputable def conA (ts : Array Value) (g : FuncId) (l : List SV) (m : SMem) : Option Tree := match g, l with
  | 6, [.s (.agg (.op ws)), .s (.c (.f (.int .u32 n)))] => some (.need [WsOk ws, inH n.den] (.ret (i64 (.o (nameW ws n.den))) m))
  | 8, [.s (.agg (.op ws)), .s (.c (.f (.int .i64 x)))] => some (.need [Inv ts, SameT ts ws] (rretTree ts ws x.den m))
  | 9, [.s (.c (.f (.lit (.slice none 0 0)))), .s (.c (.f (.lit (.slice none 0 0))))] => some (.ret (sB (.l true)) m)
  | 9, [.s (.c (.f (.slice i (.l 0) n1 (.full 1)))), .s (.c (.f (.slice j (.l 0) n2 (.full 1))))] => (match getB m.bl i, getB m.bl j with | some ⟨.pop rs, 30, _⟩, some ⟨.pop ss, 3, _⟩ => some (.need [rs = u32s (ints rs), ss = i64s (ints rs), n1.den = (ints rs).length, n2.den = (ints rs).length, (ints rs).length ≤ 32, InR rs] (.ret (sB (.l true)) m)) | _, _ => none)
  | 9, _ => some (.need [False] (.ret (sB (.l true)) m))
  | 11, [.s (.agg (.op ws)), .s (.c (.f (.int .i64 r)))] => some (.need [WsOk ws] (.ret (wsS (clearW ws r.den)) m))
  | 13, [.s (.agg (.op ws)), .s (.agg (.ls [.f (.int .i64 r), .f (.int .i64 b), .f (.int .i64 t), .f (.bool mu), .f (.int .i64 a)]))] => some (.need [SameT ts ws] (.ret (lnS (lendW ts ws r.den b.den t.den mu.den a.den) (lendI ts r.den b.den t.den mu.den a.den) (lendE ts r.den b.den t.den mu.den a.den)) m))
  | 15, [.s (.agg (.op ts)), .s (.agg (.op ws))] => some (.need [SameT ts ws] (.ret (sB (.l true)) m))
  | 18, [.s (.agg (.op ws)), .s (.c (.f (.int .i64 r))), .s (.c (.f (.int .i64 t)))] => some (.need [WsOk ws] (rowI (thoseW ws r.den t.den 32) m))
  | 20, [.s (.agg (.op ws)), .s (.c (.f (.int .i64 r))), .s (.c (.f (.int .i64 a)))] => some (.need [WsOk ws] (.ret (sB (.o (readsW ws r.den a.den))) m))
  | 22, [.s (.agg (.op ws)), .s (.c (.f (.int .i64 r))), .s (.c (.f (.int .i64 a)))] => some (.need [WsOk ws] (.ret (sB (.o (writesW ws r.den a.den))) m))
  | g, l => conL g l m
noncomputable def EA (ts : Array Value) : Env := ⟨Try.prog, fnOf, conA ts, haltAt [3006, 3027, 3032]⟩
noncomputable def pA_d0 : List SIt := sekF Try.f3 6
noncomputable def pA_F (off : Nat) (n : Nat) (cs : Array Value) (ty : TypeId) (rg : Int) (tk : Int) (i : Int) (ts : Array Value) (hs : Array Value) (ws : Array Value) (vs : Array Value) : List SFr := [frOf 3 Try.f3 [(0, acS off n), (1, .s (.c (.f (.int .u32 (.o rg))))), (2, i64 (.o tk)), (7, ptr 1 (.l 0)), (8, ptr 2 (.l 0)), (9, ptr 3 (.l 0)), (10, ptr 4 (.l 0)), (11, i64 (.o i))] pA_d0]
noncomputable def pA_M (off : Nat) (n : Nat) (cs : Array Value) (ty : TypeId) (rg : Int) (tk : Int) (i : Int) (ts : Array Value) (hs : Array Value) (ws : Array Value) (vs : Array Value) : SMem := mkM 5 [(0, ⟨.raw cs, ty, false⟩), (1, ⟨.op ts, 35, true⟩), (2, ⟨.op hs, 35, true⟩), (3, ⟨.op ws, 43, true⟩), (4, ⟨.op vs, 43, true⟩)]
noncomputable def pA_n (off : Nat) (n : Nat) (cs : Array Value) (ty : TypeId) (rg : Int) (tk : Int) (Q : Int → Array Value → Array Value → Array Value → Array Value → Prop) (fs : List SFr) (m : SMem) : Prop := (match frNth fs 0 with | some f0 => (match rdI f0 11 with | some i => (match rdP f0 7 with | some p1 => (match rdP f0 8 with | some p2 => (match rdP f0 9 with | some p3 => (match rdP f0 10 with | some p4 => (match rdA m p1 with | some ts => (match rdA m p2 with | some hs => (match rdA m p3 with | some ws => (match rdA m p4 with | some vs => Q i ts hs ws vs ∧ subOk 1 [(1, p1), (2, p2), (3, p3), (4, p4)] (pA_F off n cs ty rg tk i ts hs ws vs) (pA_M off n cs ty rg tk i ts hs ws vs) fs m | none => False) | none => False) | none => False) | none => False) | none => False) | none => False) | none => False) | none => False) | none => False) | none => False)
noncomputable def pB_d0 : List SIt := sekF Try.f3 27
noncomputable def pB_F (off : Nat) (n : Nat) (cs : Array Value) (ty : TypeId) (rg : Int) (tk : Int) (i : Int) (ts : Array Value) (hs : Array Value) (ws : Array Value) (vs : Array Value) : List SFr := [frOf 3 Try.f3 [(0, acS off n), (1, .s (.c (.f (.int .u32 (.o rg))))), (2, i64 (.o tk)), (7, ptr 1 (.l 0)), (8, ptr 2 (.l 0)), (9, ptr 3 (.l 0)), (10, ptr 4 (.l 0)), (11, i64 (.o i))] pB_d0]
noncomputable def pB_M (off : Nat) (n : Nat) (cs : Array Value) (ty : TypeId) (rg : Int) (tk : Int) (i : Int) (ts : Array Value) (hs : Array Value) (ws : Array Value) (vs : Array Value) : SMem := mkM 5 [(0, ⟨.raw cs, ty, false⟩), (1, ⟨.op ts, 35, true⟩), (2, ⟨.op hs, 35, true⟩), (3, ⟨.op ws, 43, true⟩), (4, ⟨.op vs, 43, true⟩)]
noncomputable def pB_n (off : Nat) (n : Nat) (cs : Array Value) (ty : TypeId) (rg : Int) (tk : Int) (Q : Int → Array Value → Array Value → Array Value → Array Value → Prop) (fs : List SFr) (m : SMem) : Prop := (match frNth fs 0 with | some f0 => (match rdI f0 11 with | some i => (match rdP f0 7 with | some p1 => (match rdP f0 8 with | some p2 => (match rdP f0 9 with | some p3 => (match rdP f0 10 with | some p4 => (match rdA m p1 with | some ts => (match rdA m p2 with | some hs => (match rdA m p3 with | some ws => (match rdA m p4 with | some vs => Q i ts hs ws vs ∧ subOk 1 [(1, p1), (2, p2), (3, p3), (4, p4)] (pB_F off n cs ty rg tk i ts hs ws vs) (pB_M off n cs ty rg tk i ts hs ws vs) fs m | none => False) | none => False) | none => False) | none => False) | none => False) | none => False) | none => False) | none => False) | none => False) | none => False)
noncomputable def pC_d0 : List SIt := sekF Try.f3 32
noncomputable def pC_F (rg : Int) (tk : Int) (ts : Array Value) (hs : Array Value) (ws : Array Value) (vs : Array Value) : List SFr := [frOf 3 Try.f3 [(1, .s (.c (.f (.int .u32 (.o rg))))), (2, i64 (.o tk)), (7, ptr 1 (.l 0)), (8, ptr 2 (.l 0)), (9, ptr 3 (.l 0)), (10, ptr 4 (.l 0))] pC_d0]
noncomputable def pC_M (rg : Int) (tk : Int) (ts : Array Value) (hs : Array Value) (ws : Array Value) (vs : Array Value) : SMem := mkM 5 [(1, ⟨.op ts, 35, true⟩), (2, ⟨.op hs, 35, true⟩), (3, ⟨.op ws, 43, true⟩), (4, ⟨.op vs, 43, true⟩)]
noncomputable def pC_n (rg : Int) (tk : Int) (Q : Array Value → Array Value → Array Value → Array Value → Prop) (fs : List SFr) (m : SMem) : Prop := (match frNth fs 0 with | some f0 => (match rdP f0 7 with | some p1 => (match rdP f0 8 with | some p2 => (match rdP f0 9 with | some p3 => (match rdP f0 10 with | some p4 => (match rdA m p1 with | some ts => (match rdA m p2 with | some hs => (match rdA m p3 with | some ws => (match rdA m p4 with | some vs => Q ts hs ws vs ∧ subOk 1 [(1, p1), (2, p2), (3, p3), (4, p4)] (pC_F rg tk ts hs ws vs) (pC_M rg tk ts hs ws vs) fs m | none => False) | none => False) | none => False) | none => False) | none => False) | none => False) | none => False) | none => False) | none => False)
noncomputable def pBC (off n : Nat) (cs : Array Value) (ty : TypeId) (rg tk : Int) (QB : Int → Array Value → Array Value → Array Value → Array Value → Prop) (QC : Array Value → Array Value → Array Value → Array Value → Prop) (fs : List SFr) (m : SMem) : Prop := match Nat.beq (atR fs) 3027 with | true => pB_n off n cs ty rg tk QB fs m | false => pC_n rg tk QC fs m
noncomputable def p0T (off n : Nat) (cs : Array Value) (ty : TypeId) (rg tk : Int) : Tree := run (EA #[]) 1000 1 [callFr 3 Try.f3.ntmps [acS off n, u32 rg, i64 (.o tk)] (Try.f3.body.getD .skip)] (mkM 1 [(0, ⟨.raw cs, ty, false⟩)])
theorem pA_d0_ok (r : Nat → Option Nat) : TodoOk r pA_d0 pA_d0 := TodoOk.it (by kernel_rfl)
theorem pB_d0_ok (r : Nat → Option Nat) : TodoOk r pB_d0 pB_d0 := TodoOk.it (by kernel_rfl)
theorem pC_d0_ok (r : Nat → Option Nat) : TodoOk r pC_d0 pC_d0 := TodoOk.it (by kernel_rfl)
theorem pA_good {A : SV → SMem → Prop} {off : Nat} {n : Nat} {cs : Array Value} {ty : TypeId} {rg : Int} {tk : Int} {Q : Int → Array Value → Array Value → Array Value → Array Value → Prop} {fs : List SFr} {m : SMem} (H : ∀ i ts hs ws vs, Q i ts hs ws vs → Good Try.prog A 1 (pA_F off n cs ty rg tk i ts hs ws vs) (pA_M off n cs ty rg tk i ts hs ws vs)) (hb : pA_n off n cs ty rg tk Q fs m) : Good Try.prog A 1 fs m := by
  unfold pA_n at hb
  split at hb
  rotate_left
  · exact hb.elim
  split at hb
  rotate_left
  · exact hb.elim
  split at hb
  rotate_left
  · exact hb.elim
  split at hb
  rotate_left
  · exact hb.elim
  split at hb
  rotate_left
  · exact hb.elim
  split at hb
  rotate_left
  · exact hb.elim
  split at hb
  rotate_left
  · exact hb.elim
  split at hb
  rotate_left
  · exact hb.elim
  split at hb
  rotate_left
  · exact hb.elim
  split at hb
  rotate_left
  · exact hb.elim
  exact Good.of_sub hb.2 (H _ _ _ _ _ hb.1)
theorem pB_good {A : SV → SMem → Prop} {off : Nat} {n : Nat} {cs : Array Value} {ty : TypeId} {rg : Int} {tk : Int} {Q : Int → Array Value → Array Value → Array Value → Array Value → Prop} {fs : List SFr} {m : SMem} (H : ∀ i ts hs ws vs, Q i ts hs ws vs → Good Try.prog A 1 (pB_F off n cs ty rg tk i ts hs ws vs) (pB_M off n cs ty rg tk i ts hs ws vs)) (hb : pB_n off n cs ty rg tk Q fs m) : Good Try.prog A 1 fs m := by
  unfold pB_n at hb
  split at hb
  rotate_left
  · exact hb.elim
  split at hb
  rotate_left
  · exact hb.elim
  split at hb
  rotate_left
  · exact hb.elim
  split at hb
  rotate_left
  · exact hb.elim
  split at hb
  rotate_left
  · exact hb.elim
  split at hb
  rotate_left
  · exact hb.elim
  split at hb
  rotate_left
  · exact hb.elim
  split at hb
  rotate_left
  · exact hb.elim
  split at hb
  rotate_left
  · exact hb.elim
  split at hb
  rotate_left
  · exact hb.elim
  exact Good.of_sub hb.2 (H _ _ _ _ _ hb.1)
theorem pC_good {A : SV → SMem → Prop} {rg : Int} {tk : Int} {Q : Array Value → Array Value → Array Value → Array Value → Prop} {fs : List SFr} {m : SMem} (H : ∀ ts hs ws vs, Q ts hs ws vs → Good Try.prog A 1 (pC_F rg tk ts hs ws vs) (pC_M rg tk ts hs ws vs)) (hb : pC_n rg tk Q fs m) : Good Try.prog A 1 fs m := by
  unfold pC_n at hb
  split at hb
  rotate_left
  · exact hb.elim
  split at hb
  rotate_left
  · exact hb.elim
  split at hb
  rotate_left
  · exact hb.elim
  split at hb
  rotate_left
  · exact hb.elim
  split at hb
  rotate_left
  · exact hb.elim
  split at hb
  rotate_left
  · exact hb.elim
  split at hb
  rotate_left
  · exact hb.elim
  split at hb
  rotate_left
  · exact hb.elim
  split at hb
  rotate_left
  · exact hb.elim
  exact Good.of_sub hb.2 (H _ _ _ _ hb.1)
end Go.Proofs.Ytnjmockpdmchcaa
/- Of token: TokenPlays: the law's states. -/
namespace Go.Proofs.Ytnjmockpdmchcaa
set_option maxRecDepth 100000
theorem p0 (off n : Nat) (cs : Array Value) (ty : TypeId) (rg tk : Int) (QB : Int → Array Value → Array Value → Array Value → Array Value → Prop) : (p0T off n cs ty rg tk).vc (isB true) (pA_n off n cs ty rg tk QB) =
    ((decide ((↑n : Int) > (150 : Int)) = true → true = true) ∧ (decide ((↑n : Int) > (150 : Int)) = false → QB (0 : Int) zA35 zA35 zA43 zA43 ∧ CallKind.normal = CallKind.normal ∧ TodoOk (ren 1 [(1, 1), (2, 2), (3, 3), (4, 4)]) pA_d0 pA_d0 ∧ off = off ∧ n = n ∧ rg = rg ∧ (0 : Int) = (0 : Int) ∧ tk = tk ∧ ty = ty ∧ cs = cs ∧ (35 : TypeId) = (35 : Nat) ∧ zA35 = zA35 ∧ (43 : TypeId) = (43 : Nat) ∧ zA43 = zA43 ∧ (35 : TypeId) = (35 : Nat) ∧ zA35 = zA35 ∧ (43 : TypeId) = (43 : Nat) ∧ zA43 = zA43 ∧ True)) := by kernel_rfl
theorem pa (off n : Nat) (cs : Array Value) (ty : TypeId) (rg tk : Int) (i : Int) (ts hs ws vs : Array Value) (QB : Int → Array Value → Array Value → Array Value → Array Value → Prop) (QC : Array Value → Array Value → Array Value → Array Value → Prop) : (stepT (EA ts).go (run (EA ts) 1000) 1 (pA_F off n cs ty rg tk i ts hs ws vs) (pA_M off n cs ty rg tk i ts hs ws vs)).vc (isB true) (pBC off n cs ty rg tk QB QC) =
    ((decide (i < (↑n : Int)) = true → (((0 : Int) ≤ i ∧ i < (↑n : Int)) ∧ True) ∧ (IsInt IntKind.u8 cs (off + Int.toNat i * (7 : Nat)) ∧ IsInt IntKind.u32 cs (off + Int.toNat i * (7 : Nat) + 1) ∧ IsInt IntKind.u32 cs (off + Int.toNat i * (7 : Nat) + 2) ∧ IsInt IntKind.u8 cs (off + Int.toNat i * (7 : Nat) + 3) ∧ IsInt IntKind.u8 cs (off + Int.toNat i * (7 : Nat) + 4) ∧ IsBool cs (off + Int.toNat i * (7 : Nat) + 5) ∧ IsInt IntKind.u32 cs (off + Int.toNat i * (7 : Nat) + 6) ∧ True) ∧ (Array.size ws = (224 : Nat) ∧ True) ∧ (WsOk ws ∧ ((0 : Int) ≤ intAt cs (off + Int.toNat i * (7 : Nat) + 1) ∧ intAt cs (off + Int.toNat i * (7 : Nat) + 1) < (4294967296 : Int)) ∧ True) ∧ ((intAt cs (off + Int.toNat i * (7 : Nat)) == (0 : Int)) = true → (Array.size ts = (144 : Nat) ∧ True) ∧ (TsOk ts ∧ ((0 : Int) ≤ IntKind.wrap IntKind.u32 (nameW ws (intAt cs (off + Int.toNat i * (7 : Nat) + 1))) ∧ IntKind.wrap IntKind.u32 (nameW ws (intAt cs (off + Int.toNat i * (7 : Nat) + 1))) < (4294967296 : Int)) ∧ True) ∧ (goodB (bkT ts) (IntKind.wrap IntKind.u32 (nameW ws (intAt cs (off + Int.toNat i * (7 : Nat) + 1)))) = true → ((∃ n, Deep ts n (IntKind.wrap IntKind.u32 (nameW ws (intAt cs (off + Int.toNat i * (7 : Nat) + 1))))) ∧ True) ∧ (Array.size (retT ts (IntKind.wrap IntKind.u32 (nameW ws (intAt cs (off + Int.toNat i * (7 : Nat) + 1))))) = (144 : Nat) ∧ Array.size (retT ts (IntKind.wrap IntKind.u32 (nameW ws (intAt cs (off + Int.toNat i * (7 : Nat) + 1))))) = (144 : Nat) ∧ True) ∧ (Array.size ws = (224 : Nat) ∧ True) ∧ (Inv ts ∧ SameT ts ws ∧ True) ∧ (goodB (bkT ts) (nameW ws (intAt cs (off + Int.toNat i * (7 : Nat) + 1))) = true → (Array.size (outW ws (retL ts (nameW ws (intAt cs (off + Int.toNat i * (7 : Nat) + 1)))) (List.length (retL ts (nameW ws (intAt cs (off + Int.toNat i * (7 : Nat) + 1)))))) = (224 : Nat) ∧ Array.size (outW ws (retL ts (nameW ws (intAt cs (off + Int.toNat i * (7 : Nat) + 1)))) (List.length (retL ts (nameW ws (intAt cs (off + Int.toNat i * (7 : Nat) + 1)))))) = (224 : Nat) ∧ True) ∧ (Array.size (retT ts (IntKind.wrap IntKind.u32 (nameW ws (intAt cs (off + Int.toNat i * (7 : Nat) + 1))))) = (144 : Nat) ∧ True) ∧ (Array.size (outW ws (retL ts (nameW ws (intAt cs (off + Int.toNat i * (7 : Nat) + 1)))) (List.length (retL ts (nameW ws (intAt cs (off + Int.toNat i * (7 : Nat) + 1)))))) = (224 : Nat) ∧ True) ∧ (Array.size (retT ts (IntKind.wrap IntKind.u32 (nameW ws (intAt cs (off + Int.toNat i * (7 : Nat) + 1))))) = (144 : Nat) ∧ Array.size (retT ts (IntKind.wrap IntKind.u32 (nameW ws (intAt cs (off + Int.toNat i * (7 : Nat) + 1))))) = Array.size ts ∧ True) ∧ (Array.size (outW ws (retL ts (nameW ws (intAt cs (off + Int.toNat i * (7 : Nat) + 1)))) (List.length (retL ts (nameW ws (intAt cs (off + Int.toNat i * (7 : Nat) + 1)))))) = (224 : Nat) ∧ Array.size (outW ws (retL ts (nameW ws (intAt cs (off + Int.toNat i * (7 : Nat) + 1)))) (List.length (retL ts (nameW ws (intAt cs (off + Int.toNat i * (7 : Nat) + 1)))))) = Array.size ws ∧ True) ∧ (u32s (retL ts (IntKind.wrap IntKind.u32 (nameW ws (intAt cs (off + Int.toNat i * (7 : Nat) + 1))))) = u32s (ints (u32s (retL ts (IntKind.wrap IntKind.u32 (nameW ws (intAt cs (off + Int.toNat i * (7 : Nat) + 1))))))) ∧ i64s (retL ts (nameW ws (intAt cs (off + Int.toNat i * (7 : Nat) + 1)))) = i64s (ints (u32s (retL ts (IntKind.wrap IntKind.u32 (nameW ws (intAt cs (off + Int.toNat i * (7 : Nat) + 1))))))) ∧ List.length (retL ts (IntKind.wrap IntKind.u32 (nameW ws (intAt cs (off + Int.toNat i * (7 : Nat) + 1))))) = List.length (ints (u32s (retL ts (IntKind.wrap IntKind.u32 (nameW ws (intAt cs (off + Int.toNat i * (7 : Nat) + 1))))))) ∧ List.length (retL ts (nameW ws (intAt cs (off + Int.toNat i * (7 : Nat) + 1)))) = List.length (ints (u32s (retL ts (IntKind.wrap IntKind.u32 (nameW ws (intAt cs (off + Int.toNat i * (7 : Nat) + 1))))))) ∧ List.length (ints (u32s (retL ts (IntKind.wrap IntKind.u32 (nameW ws (intAt cs (off + Int.toNat i * (7 : Nat) + 1))))))) ≤ (32 : Nat) ∧ InR (u32s (retL ts (IntKind.wrap IntKind.u32 (nameW ws (intAt cs (off + Int.toNat i * (7 : Nat) + 1)))))) ∧ True) ∧ QB i (retT ts (IntKind.wrap IntKind.u32 (nameW ws (intAt cs (off + Int.toNat i * (7 : Nat) + 1))))) hs (outW ws (retL ts (nameW ws (intAt cs (off + Int.toNat i * (7 : Nat) + 1)))) (List.length (retL ts (nameW ws (intAt cs (off + Int.toNat i * (7 : Nat) + 1)))))) vs ∧ CallKind.normal = CallKind.normal ∧ TodoOk (ren 1 [(1, 1), (2, 2), (3, 3), (4, 4)]) pB_d0 pB_d0 ∧ off = off ∧ n = n ∧ rg = rg ∧ i = i ∧ tk = tk ∧ ty = ty ∧ cs = cs ∧ (35 : TypeId) = (35 : TypeId) ∧ retT ts (IntKind.wrap IntKind.u32 (nameW ws (intAt cs (off + Int.toNat i * (7 : Nat) + 1)))) = retT ts (IntKind.wrap IntKind.u32 (nameW ws (intAt cs (off + Int.toNat i * (7 : Nat) + 1)))) ∧ (43 : TypeId) = (43 : TypeId) ∧ outW ws (retL ts (nameW ws (intAt cs (off + Int.toNat i * (7 : Nat) + 1)))) (List.length (retL ts (nameW ws (intAt cs (off + Int.toNat i * (7 : Nat) + 1))))) = outW ws (retL ts (nameW ws (intAt cs (off + Int.toNat i * (7 : Nat) + 1)))) (List.length (retL ts (nameW ws (intAt cs (off + Int.toNat i * (7 : Nat) + 1))))) ∧ (35 : TypeId) = (35 : TypeId) ∧ hs = hs ∧ (43 : TypeId) = (43 : TypeId) ∧ vs = vs ∧ True) ∧ (goodB (bkT ts) (nameW ws (intAt cs (off + Int.toNat i * (7 : Nat) + 1))) = false → (Array.size ws = (224 : Nat) ∧ Array.size ws = (224 : Nat) ∧ True) ∧ (Array.size (retT ts (IntKind.wrap IntKind.u32 (nameW ws (intAt cs (off + Int.toNat i * (7 : Nat) + 1))))) = (144 : Nat) ∧ True) ∧ (Array.size ws = (224 : Nat) ∧ True) ∧ (Array.size (retT ts (IntKind.wrap IntKind.u32 (nameW ws (intAt cs (off + Int.toNat i * (7 : Nat) + 1))))) = (144 : Nat) ∧ Array.size (retT ts (IntKind.wrap IntKind.u32 (nameW ws (intAt cs (off + Int.toNat i * (7 : Nat) + 1))))) = Array.size ts ∧ True) ∧ (Array.size ws = (224 : Nat) ∧ Array.size ws = Array.size ws ∧ True) ∧ false = true)) ∧ (goodB (bkT ts) (IntKind.wrap IntKind.u32 (nameW ws (intAt cs (off + Int.toNat i * (7 : Nat) + 1)))) = false → (Array.size ts = (144 : Nat) ∧ Array.size ts = (144 : Nat) ∧ True) ∧ (Array.size ws = (224 : Nat) ∧ True) ∧ (Inv ts ∧ SameT ts ws ∧ True) ∧ (goodB (bkT ts) (nameW ws (intAt cs (off + Int.toNat i * (7 : Nat) + 1))) = true → (Array.size (outW ws (retL ts (nameW ws (intAt cs (off + Int.toNat i * (7 : Nat) + 1)))) (List.length (retL ts (nameW ws (intAt cs (off + Int.toNat i * (7 : Nat) + 1)))))) = (224 : Nat) ∧ Array.size (outW ws (retL ts (nameW ws (intAt cs (off + Int.toNat i * (7 : Nat) + 1)))) (List.length (retL ts (nameW ws (intAt cs (off + Int.toNat i * (7 : Nat) + 1)))))) = (224 : Nat) ∧ True) ∧ (Array.size ts = (144 : Nat) ∧ True) ∧ (Array.size (outW ws (retL ts (nameW ws (intAt cs (off + Int.toNat i * (7 : Nat) + 1)))) (List.length (retL ts (nameW ws (intAt cs (off + Int.toNat i * (7 : Nat) + 1)))))) = (224 : Nat) ∧ True) ∧ (Array.size ts = (144 : Nat) ∧ Array.size ts = Array.size ts ∧ True) ∧ (Array.size (outW ws (retL ts (nameW ws (intAt cs (off + Int.toNat i * (7 : Nat) + 1)))) (List.length (retL ts (nameW ws (intAt cs (off + Int.toNat i * (7 : Nat) + 1)))))) = (224 : Nat) ∧ Array.size (outW ws (retL ts (nameW ws (intAt cs (off + Int.toNat i * (7 : Nat) + 1)))) (List.length (retL ts (nameW ws (intAt cs (off + Int.toNat i * (7 : Nat) + 1)))))) = Array.size ws ∧ True) ∧ false = true) ∧ (goodB (bkT ts) (nameW ws (intAt cs (off + Int.toNat i * (7 : Nat) + 1))) = false → (Array.size ws = (224 : Nat) ∧ Array.size ws = (224 : Nat) ∧ True) ∧ (Array.size ts = (144 : Nat) ∧ True) ∧ (Array.size ws = (224 : Nat) ∧ True) ∧ (Array.size ts = (144 : Nat) ∧ Array.size ts = Array.size ts ∧ True) ∧ (Array.size ws = (224 : Nat) ∧ Array.size ws = Array.size ws ∧ True) ∧ QB i ts hs ws vs ∧ CallKind.normal = CallKind.normal ∧ TodoOk (ren 1 [(1, 1), (2, 2), (3, 3), (4, 4)]) pB_d0 pB_d0 ∧ off = off ∧ n = n ∧ rg = rg ∧ i = i ∧ tk = tk ∧ ty = ty ∧ cs = cs ∧ (35 : TypeId) = (35 : TypeId) ∧ ts = ts ∧ (43 : TypeId) = (43 : TypeId) ∧ ws = ws ∧ (35 : TypeId) = (35 : TypeId) ∧ hs = hs ∧ (43 : TypeId) = (43 : TypeId) ∧ vs = vs ∧ True))) ∧ ((intAt cs (off + Int.toNat i * (7 : Nat)) == (0 : Int)) = false → ((intAt cs (off + Int.toNat i * (7 : Nat)) == (1 : Int)) = true → (Array.size ts = (144 : Nat) ∧ True) ∧ (TsOk ts ∧ True) ∧ (Array.size (clearT ts (intAt cs (off + Int.toNat i * (7 : Nat) + 2))) = (144 : Nat) ∧ Array.size (clearT ts (intAt cs (off + Int.toNat i * (7 : Nat) + 2))) = Array.size ts ∧ True) ∧ (Array.size ws = (224 : Nat) ∧ True) ∧ (WsOk ws ∧ True) ∧ (Array.size (clearW ws (IntKind.wrap IntKind.i64 (intAt cs (off + Int.toNat i * (7 : Nat) + 2)))) = (224 : Nat) ∧ Array.size (clearW ws (IntKind.wrap IntKind.i64 (intAt cs (off + Int.toNat i * (7 : Nat) + 2)))) = Array.size ws ∧ True) ∧ QB i (clearT ts (intAt cs (off + Int.toNat i * (7 : Nat) + 2))) hs (clearW ws (IntKind.wrap IntKind.i64 (intAt cs (off + Int.toNat i * (7 : Nat) + 2)))) vs ∧ CallKind.normal = CallKind.normal ∧ TodoOk (ren 1 [(1, 1), (2, 2), (3, 3), (4, 4)]) pB_d0 pB_d0 ∧ off = off ∧ n = n ∧ rg = rg ∧ i = i ∧ tk = tk ∧ ty = ty ∧ cs = cs ∧ (35 : TypeId) = (35 : TypeId) ∧ clearT ts (intAt cs (off + Int.toNat i * (7 : Nat) + 2)) = clearT ts (intAt cs (off + Int.toNat i * (7 : Nat) + 2)) ∧ (43 : TypeId) = (43 : TypeId) ∧ clearW ws (IntKind.wrap IntKind.i64 (intAt cs (off + Int.toNat i * (7 : Nat) + 2))) = clearW ws (IntKind.wrap IntKind.i64 (intAt cs (off + Int.toNat i * (7 : Nat) + 2))) ∧ (35 : TypeId) = (35 : TypeId) ∧ hs = hs ∧ (43 : TypeId) = (43 : TypeId) ∧ vs = vs ∧ True) ∧ ((intAt cs (off + Int.toNat i * (7 : Nat)) == (1 : Int)) = false → (Array.size ws = (224 : Nat) ∧ True) ∧ (WsOk ws ∧ ((0 : Int) ≤ intAt cs (off + Int.toNat i * (7 : Nat) + 6) ∧ intAt cs (off + Int.toNat i * (7 : Nat) + 6) < (4294967296 : Int)) ∧ True) ∧ (Array.size ts = (144 : Nat) ∧ True) ∧ (TsOk ts ∧ ((0 : Int) ≤ IntKind.wrap IntKind.u32 (nameW ws (intAt cs (off + Int.toNat i * (7 : Nat) + 6))) ∧ IntKind.wrap IntKind.u32 (nameW ws (intAt cs (off + Int.toNat i * (7 : Nat) + 6))) < (4294967296 : Int)) ∧ True) ∧ (Array.size (lendT ts (intAt cs (off + Int.toNat i * (7 : Nat) + 2)) (intAt cs (off + Int.toNat i * (7 : Nat) + 3)) (intAt cs (off + Int.toNat i * (7 : Nat) + 4)) (boolAt cs (off + Int.toNat i * (7 : Nat) + 5)) (IntKind.wrap IntKind.u32 (nameW ws (intAt cs (off + Int.toNat i * (7 : Nat) + 6))))) = (144 : Nat) ∧ Array.size (lendT ts (intAt cs (off + Int.toNat i * (7 : Nat) + 2)) (intAt cs (off + Int.toNat i * (7 : Nat) + 3)) (intAt cs (off + Int.toNat i * (7 : Nat) + 4)) (boolAt cs (off + Int.toNat i * (7 : Nat) + 5)) (IntKind.wrap IntKind.u32 (nameW ws (intAt cs (off + Int.toNat i * (7 : Nat) + 6))))) = (144 : Nat) ∧ True) ∧ (Array.size ws = (224 : Nat) ∧ True) ∧ (SameT ts ws ∧ True) ∧ (Array.size (lendW ts ws (IntKind.wrap IntKind.i64 (intAt cs (off + Int.toNat i * (7 : Nat) + 2))) (IntKind.wrap IntKind.i64 (intAt cs (off + Int.toNat i * (7 : Nat) + 3))) (IntKind.wrap IntKind.i64 (intAt cs (off + Int.toNat i * (7 : Nat) + 4))) (boolAt cs (off + Int.toNat i * (7 : Nat) + 5)) (IntKind.wrap IntKind.i64 (IntKind.wrap IntKind.u32 (nameW ws (intAt cs (off + Int.toNat i * (7 : Nat) + 6)))))) = (224 : Nat) ∧ Array.size (lendW ts ws (IntKind.wrap IntKind.i64 (intAt cs (off + Int.toNat i * (7 : Nat) + 2))) (IntKind.wrap IntKind.i64 (intAt cs (off + Int.toNat i * (7 : Nat) + 3))) (IntKind.wrap IntKind.i64 (intAt cs (off + Int.toNat i * (7 : Nat) + 4))) (boolAt cs (off + Int.toNat i * (7 : Nat) + 5)) (IntKind.wrap IntKind.i64 (IntKind.wrap IntKind.u32 (nameW ws (intAt cs (off + Int.toNat i * (7 : Nat) + 6)))))) = (224 : Nat) ∧ True) ∧ (Array.size (lendT ts (intAt cs (off + Int.toNat i * (7 : Nat) + 2)) (intAt cs (off + Int.toNat i * (7 : Nat) + 3)) (intAt cs (off + Int.toNat i * (7 : Nat) + 4)) (boolAt cs (off + Int.toNat i * (7 : Nat) + 5)) (IntKind.wrap IntKind.u32 (nameW ws (intAt cs (off + Int.toNat i * (7 : Nat) + 6))))) = (144 : Nat) ∧ True) ∧ (Array.size (lendW ts ws (IntKind.wrap IntKind.i64 (intAt cs (off + Int.toNat i * (7 : Nat) + 2))) (IntKind.wrap IntKind.i64 (intAt cs (off + Int.toNat i * (7 : Nat) + 3))) (IntKind.wrap IntKind.i64 (intAt cs (off + Int.toNat i * (7 : Nat) + 4))) (boolAt cs (off + Int.toNat i * (7 : Nat) + 5)) (IntKind.wrap IntKind.i64 (IntKind.wrap IntKind.u32 (nameW ws (intAt cs (off + Int.toNat i * (7 : Nat) + 6)))))) = (224 : Nat) ∧ True) ∧ (Array.size (lendT ts (intAt cs (off + Int.toNat i * (7 : Nat) + 2)) (intAt cs (off + Int.toNat i * (7 : Nat) + 3)) (intAt cs (off + Int.toNat i * (7 : Nat) + 4)) (boolAt cs (off + Int.toNat i * (7 : Nat) + 5)) (IntKind.wrap IntKind.u32 (nameW ws (intAt cs (off + Int.toNat i * (7 : Nat) + 6))))) = (144 : Nat) ∧ Array.size (lendT ts (intAt cs (off + Int.toNat i * (7 : Nat) + 2)) (intAt cs (off + Int.toNat i * (7 : Nat) + 3)) (intAt cs (off + Int.toNat i * (7 : Nat) + 4)) (boolAt cs (off + Int.toNat i * (7 : Nat) + 5)) (IntKind.wrap IntKind.u32 (nameW ws (intAt cs (off + Int.toNat i * (7 : Nat) + 6))))) = Array.size ts ∧ True) ∧ (Array.size (lendW ts ws (IntKind.wrap IntKind.i64 (intAt cs (off + Int.toNat i * (7 : Nat) + 2))) (IntKind.wrap IntKind.i64 (intAt cs (off + Int.toNat i * (7 : Nat) + 3))) (IntKind.wrap IntKind.i64 (intAt cs (off + Int.toNat i * (7 : Nat) + 4))) (boolAt cs (off + Int.toNat i * (7 : Nat) + 5)) (IntKind.wrap IntKind.i64 (IntKind.wrap IntKind.u32 (nameW ws (intAt cs (off + Int.toNat i * (7 : Nat) + 6)))))) = (224 : Nat) ∧ Array.size (lendW ts ws (IntKind.wrap IntKind.i64 (intAt cs (off + Int.toNat i * (7 : Nat) + 2))) (IntKind.wrap IntKind.i64 (intAt cs (off + Int.toNat i * (7 : Nat) + 3))) (IntKind.wrap IntKind.i64 (intAt cs (off + Int.toNat i * (7 : Nat) + 4))) (boolAt cs (off + Int.toNat i * (7 : Nat) + 5)) (IntKind.wrap IntKind.i64 (IntKind.wrap IntKind.u32 (nameW ws (intAt cs (off + Int.toNat i * (7 : Nat) + 6)))))) = Array.size ws ∧ True) ∧ (((lendE ts (intAt cs (off + Int.toNat i * (7 : Nat) + 2)) (intAt cs (off + Int.toNat i * (7 : Nat) + 3)) (intAt cs (off + Int.toNat i * (7 : Nat) + 4)) (boolAt cs (off + Int.toNat i * (7 : Nat) + 5)) (IntKind.wrap IntKind.u32 (nameW ws (intAt cs (off + Int.toNat i * (7 : Nat) + 6)))) != lendE ts (IntKind.wrap IntKind.i64 (intAt cs (off + Int.toNat i * (7 : Nat) + 2))) (IntKind.wrap IntKind.i64 (intAt cs (off + Int.toNat i * (7 : Nat) + 3))) (IntKind.wrap IntKind.i64 (intAt cs (off + Int.toNat i * (7 : Nat) + 4))) (boolAt cs (off + Int.toNat i * (7 : Nat) + 5)) (IntKind.wrap IntKind.i64 (IntKind.wrap IntKind.u32 (nameW ws (intAt cs (off + Int.toNat i * (7 : Nat) + 6)))))) == false) = true → ((IntKind.wrap IntKind.i64 (lendI ts (intAt cs (off + Int.toNat i * (7 : Nat) + 2)) (intAt cs (off + Int.toNat i * (7 : Nat) + 3)) (intAt cs (off + Int.toNat i * (7 : Nat) + 4)) (boolAt cs (off + Int.toNat i * (7 : Nat) + 5)) (IntKind.wrap IntKind.u32 (nameW ws (intAt cs (off + Int.toNat i * (7 : Nat) + 6))))) != lendI ts (IntKind.wrap IntKind.i64 (intAt cs (off + Int.toNat i * (7 : Nat) + 2))) (IntKind.wrap IntKind.i64 (intAt cs (off + Int.toNat i * (7 : Nat) + 3))) (IntKind.wrap IntKind.i64 (intAt cs (off + Int.toNat i * (7 : Nat) + 4))) (boolAt cs (off + Int.toNat i * (7 : Nat) + 5)) (IntKind.wrap IntKind.i64 (IntKind.wrap IntKind.u32 (nameW ws (intAt cs (off + Int.toNat i * (7 : Nat) + 6)))))) = true → false = true) ∧ ((IntKind.wrap IntKind.i64 (lendI ts (intAt cs (off + Int.toNat i * (7 : Nat) + 2)) (intAt cs (off + Int.toNat i * (7 : Nat) + 3)) (intAt cs (off + Int.toNat i * (7 : Nat) + 4)) (boolAt cs (off + Int.toNat i * (7 : Nat) + 5)) (IntKind.wrap IntKind.u32 (nameW ws (intAt cs (off + Int.toNat i * (7 : Nat) + 6))))) != lendI ts (IntKind.wrap IntKind.i64 (intAt cs (off + Int.toNat i * (7 : Nat) + 2))) (IntKind.wrap IntKind.i64 (intAt cs (off + Int.toNat i * (7 : Nat) + 3))) (IntKind.wrap IntKind.i64 (intAt cs (off + Int.toNat i * (7 : Nat) + 4))) (boolAt cs (off + Int.toNat i * (7 : Nat) + 5)) (IntKind.wrap IntKind.i64 (IntKind.wrap IntKind.u32 (nameW ws (intAt cs (off + Int.toNat i * (7 : Nat) + 6)))))) = false → QB i (lendT ts (intAt cs (off + Int.toNat i * (7 : Nat) + 2)) (intAt cs (off + Int.toNat i * (7 : Nat) + 3)) (intAt cs (off + Int.toNat i * (7 : Nat) + 4)) (boolAt cs (off + Int.toNat i * (7 : Nat) + 5)) (IntKind.wrap IntKind.u32 (nameW ws (intAt cs (off + Int.toNat i * (7 : Nat) + 6))))) hs (lendW ts ws (IntKind.wrap IntKind.i64 (intAt cs (off + Int.toNat i * (7 : Nat) + 2))) (IntKind.wrap IntKind.i64 (intAt cs (off + Int.toNat i * (7 : Nat) + 3))) (IntKind.wrap IntKind.i64 (intAt cs (off + Int.toNat i * (7 : Nat) + 4))) (boolAt cs (off + Int.toNat i * (7 : Nat) + 5)) (IntKind.wrap IntKind.i64 (IntKind.wrap IntKind.u32 (nameW ws (intAt cs (off + Int.toNat i * (7 : Nat) + 6)))))) vs ∧ CallKind.normal = CallKind.normal ∧ TodoOk (ren 1 [(1, 1), (2, 2), (3, 3), (4, 4)]) pB_d0 pB_d0 ∧ off = off ∧ n = n ∧ rg = rg ∧ i = i ∧ tk = tk ∧ ty = ty ∧ cs = cs ∧ (35 : TypeId) = (35 : TypeId) ∧ lendT ts (intAt cs (off + Int.toNat i * (7 : Nat) + 2)) (intAt cs (off + Int.toNat i * (7 : Nat) + 3)) (intAt cs (off + Int.toNat i * (7 : Nat) + 4)) (boolAt cs (off + Int.toNat i * (7 : Nat) + 5)) (IntKind.wrap IntKind.u32 (nameW ws (intAt cs (off + Int.toNat i * (7 : Nat) + 6)))) = lendT ts (intAt cs (off + Int.toNat i * (7 : Nat) + 2)) (intAt cs (off + Int.toNat i * (7 : Nat) + 3)) (intAt cs (off + Int.toNat i * (7 : Nat) + 4)) (boolAt cs (off + Int.toNat i * (7 : Nat) + 5)) (IntKind.wrap IntKind.u32 (nameW ws (intAt cs (off + Int.toNat i * (7 : Nat) + 6)))) ∧ (43 : TypeId) = (43 : TypeId) ∧ lendW ts ws (IntKind.wrap IntKind.i64 (intAt cs (off + Int.toNat i * (7 : Nat) + 2))) (IntKind.wrap IntKind.i64 (intAt cs (off + Int.toNat i * (7 : Nat) + 3))) (IntKind.wrap IntKind.i64 (intAt cs (off + Int.toNat i * (7 : Nat) + 4))) (boolAt cs (off + Int.toNat i * (7 : Nat) + 5)) (IntKind.wrap IntKind.i64 (IntKind.wrap IntKind.u32 (nameW ws (intAt cs (off + Int.toNat i * (7 : Nat) + 6))))) = lendW ts ws (IntKind.wrap IntKind.i64 (intAt cs (off + Int.toNat i * (7 : Nat) + 2))) (IntKind.wrap IntKind.i64 (intAt cs (off + Int.toNat i * (7 : Nat) + 3))) (IntKind.wrap IntKind.i64 (intAt cs (off + Int.toNat i * (7 : Nat) + 4))) (boolAt cs (off + Int.toNat i * (7 : Nat) + 5)) (IntKind.wrap IntKind.i64 (IntKind.wrap IntKind.u32 (nameW ws (intAt cs (off + Int.toNat i * (7 : Nat) + 6))))) ∧ (35 : TypeId) = (35 : TypeId) ∧ hs = hs ∧ (43 : TypeId) = (43 : TypeId) ∧ vs = vs ∧ True)) ∧ (((lendE ts (intAt cs (off + Int.toNat i * (7 : Nat) + 2)) (intAt cs (off + Int.toNat i * (7 : Nat) + 3)) (intAt cs (off + Int.toNat i * (7 : Nat) + 4)) (boolAt cs (off + Int.toNat i * (7 : Nat) + 5)) (IntKind.wrap IntKind.u32 (nameW ws (intAt cs (off + Int.toNat i * (7 : Nat) + 6)))) != lendE ts (IntKind.wrap IntKind.i64 (intAt cs (off + Int.toNat i * (7 : Nat) + 2))) (IntKind.wrap IntKind.i64 (intAt cs (off + Int.toNat i * (7 : Nat) + 3))) (IntKind.wrap IntKind.i64 (intAt cs (off + Int.toNat i * (7 : Nat) + 4))) (boolAt cs (off + Int.toNat i * (7 : Nat) + 5)) (IntKind.wrap IntKind.i64 (IntKind.wrap IntKind.u32 (nameW ws (intAt cs (off + Int.toNat i * (7 : Nat) + 6)))))) == false) = false → false = true)))) ∧ (decide (i < (↑n : Int)) = false → QC ts hs ws vs ∧ CallKind.normal = CallKind.normal ∧ TodoOk (ren 1 [(1, 1), (2, 2), (3, 3), (4, 4)]) pC_d0 pC_d0 ∧ rg = rg ∧ tk = tk ∧ (35 : TypeId) = (35 : TypeId) ∧ ts = ts ∧ (43 : TypeId) = (43 : TypeId) ∧ ws = ws ∧ (35 : TypeId) = (35 : TypeId) ∧ hs = hs ∧ (43 : TypeId) = (43 : TypeId) ∧ vs = vs ∧ True)) := by kernel_rfl
theorem pb (off n : Nat) (cs : Array Value) (ty : TypeId) (rg tk : Int) (i : Int) (ts hs ws vs : Array Value) (QB : Int → Array Value → Array Value → Array Value → Array Value → Prop) : (stepT (EA ts).go (run (EA ts) 1000) 1 (pB_F off n cs ty rg tk i ts hs ws vs) (pB_M off n cs ty rg tk i ts hs ws vs)).vc (isB true) (pA_n off n cs ty rg tk QB) =
    ((Array.size ts = (144 : Nat) ∧ True) ∧ (Array.size ws = (224 : Nat) ∧ True) ∧ (SameT ts ws ∧ True) ∧ ((i == ari BinOp.quo IntKind.i64 (↑n : Int) (2 : Int)) = true → (Array.size ts = (144 : Nat) ∧ True) ∧ (Array.size ts = (144 : Nat) ∧ Array.size ts = Array.size hs ∧ True) ∧ (Array.size ws = (224 : Nat) ∧ True) ∧ (Array.size ws = (224 : Nat) ∧ Array.size ws = Array.size vs ∧ True) ∧ QB (ari BinOp.add IntKind.i64 i (1 : Int)) ts ts ws ws ∧ CallKind.normal = CallKind.normal ∧ TodoOk (ren 1 [(1, 1), (2, 2), (3, 3), (4, 4)]) pA_d0 pA_d0 ∧ off = off ∧ n = n ∧ rg = rg ∧ ari BinOp.add IntKind.i64 i (1 : Int) = ari BinOp.add IntKind.i64 i (1 : Int) ∧ tk = tk ∧ ty = ty ∧ cs = cs ∧ (35 : TypeId) = (35 : TypeId) ∧ ts = ts ∧ (43 : TypeId) = (43 : TypeId) ∧ ws = ws ∧ (35 : TypeId) = (35 : TypeId) ∧ ts = ts ∧ (43 : TypeId) = (43 : TypeId) ∧ ws = ws ∧ True) ∧ ((i == ari BinOp.quo IntKind.i64 (↑n : Int) (2 : Int)) = false → QB (ari BinOp.add IntKind.i64 i (1 : Int)) ts hs ws vs ∧ CallKind.normal = CallKind.normal ∧ TodoOk (ren 1 [(1, 1), (2, 2), (3, 3), (4, 4)]) pA_d0 pA_d0 ∧ off = off ∧ n = n ∧ rg = rg ∧ ari BinOp.add IntKind.i64 i (1 : Int) = ari BinOp.add IntKind.i64 i (1 : Int) ∧ tk = tk ∧ ty = ty ∧ cs = cs ∧ (35 : TypeId) = (35 : TypeId) ∧ ts = ts ∧ (43 : TypeId) = (43 : TypeId) ∧ ws = ws ∧ (35 : TypeId) = (35 : TypeId) ∧ hs = hs ∧ (43 : TypeId) = (43 : TypeId) ∧ vs = vs ∧ True)) := by kernel_rfl
theorem pc (rg tk : Int) (ts hs ws vs : Array Value) : (stepT (EA ts).go (run (EA ts) 1000) 1 (pC_F rg tk ts hs ws vs) (pC_M rg tk ts hs ws vs)).vc (isB true) (fun _ _ => False) =
    ((decide (tk < (0 : Int)) = true → (Array.size ts = (144 : Nat) ∧ True) ∧ (Array.size ts = (144 : Nat) ∧ True) ∧ (TsOk ts ∧ True) ∧ (decide (List.length (whL (bkT ts) (bP ts tk) (16 : Nat)) = (0 : Nat)) = true → true = true) ∧ (decide (List.length (whL (bkT ts) (bP ts tk) (16 : Nat)) = (0 : Nat)) = false → ((((↑(List.length (whL (bkT ts) (bP ts tk) (16 : Nat))) : Int) == (0 : Int)) == true) = true → true = true) ∧ ((((↑(List.length (whL (bkT ts) (bP ts tk) (16 : Nat))) : Int) == (0 : Int)) == true) = false → false = true))) ∧ (decide (tk < (0 : Int)) = false → (Array.size hs = (144 : Nat) ∧ True) ∧ (Array.size vs = (224 : Nat) ∧ True) ∧ (SameT hs vs ∧ True) ∧ (Array.size ts = (144 : Nat) ∧ True) ∧ (Array.size ts = (144 : Nat) ∧ True) ∧ (TsOk ts ∧ True) ∧ (decide (List.length (whL (bkT ts) (aP ts rg) (16 : Nat)) = (0 : Nat)) = true → (Array.size ws = (224 : Nat) ∧ True) ∧ (WsOk ws ∧ True) ∧ (decide (List.length (thoseW ws (IntKind.wrap IntKind.i64 rg) (-1 : Int) (32 : Nat)) = (0 : Nat)) = true → (Array.size ts = (144 : Nat) ∧ True) ∧ (Array.size ts = (144 : Nat) ∧ True) ∧ (TsOk ts ∧ True) ∧ (decide (List.length (whL (bkT ts) (bP ts tk) (16 : Nat)) = (0 : Nat)) = true → (Array.size ws = (224 : Nat) ∧ True) ∧ (WsOk ws ∧ True) ∧ (decide (List.length (thoseW ws (-1 : Int) tk (32 : Nat)) = (0 : Nat)) = true → (Array.size ts = (144 : Nat) ∧ True) ∧ (TsOk ts ∧ ((0 : Int) ≤ (0 : Int) ∧ (0 : Int) < (4294967296 : Int)) ∧ True) ∧ (Array.size ws = (224 : Nat) ∧ True) ∧ (WsOk ws ∧ True) ∧ (((readsB ts rg (0 : Int) == readsW ws (IntKind.wrap IntKind.i64 rg) (0 : Int)) == true) = true → (Array.size ts = (144 : Nat) ∧ True) ∧ (TsOk ts ∧ ((0 : Int) ≤ (0 : Int) ∧ (0 : Int) < (4294967296 : Int)) ∧ True) ∧ (Array.size ws = (224 : Nat) ∧ True) ∧ (WsOk ws ∧ True) ∧ (((writesB ts rg (0 : Int) == writesW ws (IntKind.wrap IntKind.i64 rg) (0 : Int)) == true) = true → true = true) ∧ (((writesB ts rg (0 : Int) == writesW ws (IntKind.wrap IntKind.i64 rg) (0 : Int)) == true) = false → false = true)) ∧ (((readsB ts rg (0 : Int) == readsW ws (IntKind.wrap IntKind.i64 rg) (0 : Int)) == true) = false → false = true)) ∧ (decide (List.length (thoseW ws (-1 : Int) tk (32 : Nat)) = (0 : Nat)) = false → (False ∧ True) ∧ (Array.size ts = (144 : Nat) ∧ True) ∧ (TsOk ts ∧ ((0 : Int) ≤ (0 : Int) ∧ (0 : Int) < (4294967296 : Int)) ∧ True) ∧ (Array.size ws = (224 : Nat) ∧ True) ∧ (WsOk ws ∧ True) ∧ (((readsB ts rg (0 : Int) == readsW ws (IntKind.wrap IntKind.i64 rg) (0 : Int)) == true) = true → (Array.size ts = (144 : Nat) ∧ True) ∧ (TsOk ts ∧ ((0 : Int) ≤ (0 : Int) ∧ (0 : Int) < (4294967296 : Int)) ∧ True) ∧ (Array.size ws = (224 : Nat) ∧ True) ∧ (WsOk ws ∧ True) ∧ (((writesB ts rg (0 : Int) == writesW ws (IntKind.wrap IntKind.i64 rg) (0 : Int)) == true) = true → true = true) ∧ (((writesB ts rg (0 : Int) == writesW ws (IntKind.wrap IntKind.i64 rg) (0 : Int)) == true) = false → false = true)) ∧ (((readsB ts rg (0 : Int) == readsW ws (IntKind.wrap IntKind.i64 rg) (0 : Int)) == true) = false → false = true))) ∧ (decide (List.length (whL (bkT ts) (bP ts tk) (16 : Nat)) = (0 : Nat)) = false → (Array.size ws = (224 : Nat) ∧ True) ∧ (WsOk ws ∧ True) ∧ (decide (List.length (thoseW ws (-1 : Int) tk (32 : Nat)) = (0 : Nat)) = true → (False ∧ True) ∧ (Array.size ts = (144 : Nat) ∧ True) ∧ (TsOk ts ∧ ((0 : Int) ≤ (0 : Int) ∧ (0 : Int) < (4294967296 : Int)) ∧ True) ∧ (Array.size ws = (224 : Nat) ∧ True) ∧ (WsOk ws ∧ True) ∧ (((readsB ts rg (0 : Int) == readsW ws (IntKind.wrap IntKind.i64 rg) (0 : Int)) == true) = true → (Array.size ts = (144 : Nat) ∧ True) ∧ (TsOk ts ∧ ((0 : Int) ≤ (0 : Int) ∧ (0 : Int) < (4294967296 : Int)) ∧ True) ∧ (Array.size ws = (224 : Nat) ∧ True) ∧ (WsOk ws ∧ True) ∧ (((writesB ts rg (0 : Int) == writesW ws (IntKind.wrap IntKind.i64 rg) (0 : Int)) == true) = true → true = true) ∧ (((writesB ts rg (0 : Int) == writesW ws (IntKind.wrap IntKind.i64 rg) (0 : Int)) == true) = false → false = true)) ∧ (((readsB ts rg (0 : Int) == readsW ws (IntKind.wrap IntKind.i64 rg) (0 : Int)) == true) = false → false = true)) ∧ (decide (List.length (thoseW ws (-1 : Int) tk (32 : Nat)) = (0 : Nat)) = false → (u32s (whL (bkT ts) (bP ts tk) (16 : Nat)) = u32s (ints (u32s (whL (bkT ts) (bP ts tk) (16 : Nat)))) ∧ i64s (thoseW ws (-1 : Int) tk (32 : Nat)) = i64s (ints (u32s (whL (bkT ts) (bP ts tk) (16 : Nat)))) ∧ List.length (whL (bkT ts) (bP ts tk) (16 : Nat)) = List.length (ints (u32s (whL (bkT ts) (bP ts tk) (16 : Nat)))) ∧ List.length (thoseW ws (-1 : Int) tk (32 : Nat)) = List.length (ints (u32s (whL (bkT ts) (bP ts tk) (16 : Nat)))) ∧ List.length (ints (u32s (whL (bkT ts) (bP ts tk) (16 : Nat)))) ≤ (32 : Nat) ∧ InR (u32s (whL (bkT ts) (bP ts tk) (16 : Nat))) ∧ True) ∧ (Array.size ts = (144 : Nat) ∧ True) ∧ (TsOk ts ∧ ((0 : Int) ≤ (0 : Int) ∧ (0 : Int) < (4294967296 : Int)) ∧ True) ∧ (Array.size ws = (224 : Nat) ∧ True) ∧ (WsOk ws ∧ True) ∧ (((readsB ts rg (0 : Int) == readsW ws (IntKind.wrap IntKind.i64 rg) (0 : Int)) == true) = true → (Array.size ts = (144 : Nat) ∧ True) ∧ (TsOk ts ∧ ((0 : Int) ≤ (0 : Int) ∧ (0 : Int) < (4294967296 : Int)) ∧ True) ∧ (Array.size ws = (224 : Nat) ∧ True) ∧ (WsOk ws ∧ True) ∧ (((writesB ts rg (0 : Int) == writesW ws (IntKind.wrap IntKind.i64 rg) (0 : Int)) == true) = true → true = true) ∧ (((writesB ts rg (0 : Int) == writesW ws (IntKind.wrap IntKind.i64 rg) (0 : Int)) == true) = false → false = true)) ∧ (((readsB ts rg (0 : Int) == readsW ws (IntKind.wrap IntKind.i64 rg) (0 : Int)) == true) = false → false = true)))) ∧ (decide (List.length (thoseW ws (IntKind.wrap IntKind.i64 rg) (-1 : Int) (32 : Nat)) = (0 : Nat)) = false → (False ∧ True) ∧ (Array.size ts = (144 : Nat) ∧ True) ∧ (Array.size ts = (144 : Nat) ∧ True) ∧ (TsOk ts ∧ True) ∧ (decide (List.length (whL (bkT ts) (bP ts tk) (16 : Nat)) = (0 : Nat)) = true → (Array.size ws = (224 : Nat) ∧ True) ∧ (WsOk ws ∧ True) ∧ (decide (List.length (thoseW ws (-1 : Int) tk (32 : Nat)) = (0 : Nat)) = true → (Array.size ts = (144 : Nat) ∧ True) ∧ (TsOk ts ∧ ((0 : Int) ≤ (0 : Int) ∧ (0 : Int) < (4294967296 : Int)) ∧ True) ∧ (Array.size ws = (224 : Nat) ∧ True) ∧ (WsOk ws ∧ True) ∧ (((readsB ts rg (0 : Int) == readsW ws (IntKind.wrap IntKind.i64 rg) (0 : Int)) == true) = true → (Array.size ts = (144 : Nat) ∧ True) ∧ (TsOk ts ∧ ((0 : Int) ≤ (0 : Int) ∧ (0 : Int) < (4294967296 : Int)) ∧ True) ∧ (Array.size ws = (224 : Nat) ∧ True) ∧ (WsOk ws ∧ True) ∧ (((writesB ts rg (0 : Int) == writesW ws (IntKind.wrap IntKind.i64 rg) (0 : Int)) == true) = true → true = true) ∧ (((writesB ts rg (0 : Int) == writesW ws (IntKind.wrap IntKind.i64 rg) (0 : Int)) == true) = false → false = true)) ∧ (((readsB ts rg (0 : Int) == readsW ws (IntKind.wrap IntKind.i64 rg) (0 : Int)) == true) = false → false = true)) ∧ (decide (List.length (thoseW ws (-1 : Int) tk (32 : Nat)) = (0 : Nat)) = false → (False ∧ True) ∧ (Array.size ts = (144 : Nat) ∧ True) ∧ (TsOk ts ∧ ((0 : Int) ≤ (0 : Int) ∧ (0 : Int) < (4294967296 : Int)) ∧ True) ∧ (Array.size ws = (224 : Nat) ∧ True) ∧ (WsOk ws ∧ True) ∧ (((readsB ts rg (0 : Int) == readsW ws (IntKind.wrap IntKind.i64 rg) (0 : Int)) == true) = true → (Array.size ts = (144 : Nat) ∧ True) ∧ (TsOk ts ∧ ((0 : Int) ≤ (0 : Int) ∧ (0 : Int) < (4294967296 : Int)) ∧ True) ∧ (Array.size ws = (224 : Nat) ∧ True) ∧ (WsOk ws ∧ True) ∧ (((writesB ts rg (0 : Int) == writesW ws (IntKind.wrap IntKind.i64 rg) (0 : Int)) == true) = true → true = true) ∧ (((writesB ts rg (0 : Int) == writesW ws (IntKind.wrap IntKind.i64 rg) (0 : Int)) == true) = false → false = true)) ∧ (((readsB ts rg (0 : Int) == readsW ws (IntKind.wrap IntKind.i64 rg) (0 : Int)) == true) = false → false = true))) ∧ (decide (List.length (whL (bkT ts) (bP ts tk) (16 : Nat)) = (0 : Nat)) = false → (Array.size ws = (224 : Nat) ∧ True) ∧ (WsOk ws ∧ True) ∧ (decide (List.length (thoseW ws (-1 : Int) tk (32 : Nat)) = (0 : Nat)) = true → (False ∧ True) ∧ (Array.size ts = (144 : Nat) ∧ True) ∧ (TsOk ts ∧ ((0 : Int) ≤ (0 : Int) ∧ (0 : Int) < (4294967296 : Int)) ∧ True) ∧ (Array.size ws = (224 : Nat) ∧ True) ∧ (WsOk ws ∧ True) ∧ (((readsB ts rg (0 : Int) == readsW ws (IntKind.wrap IntKind.i64 rg) (0 : Int)) == true) = true → (Array.size ts = (144 : Nat) ∧ True) ∧ (TsOk ts ∧ ((0 : Int) ≤ (0 : Int) ∧ (0 : Int) < (4294967296 : Int)) ∧ True) ∧ (Array.size ws = (224 : Nat) ∧ True) ∧ (WsOk ws ∧ True) ∧ (((writesB ts rg (0 : Int) == writesW ws (IntKind.wrap IntKind.i64 rg) (0 : Int)) == true) = true → true = true) ∧ (((writesB ts rg (0 : Int) == writesW ws (IntKind.wrap IntKind.i64 rg) (0 : Int)) == true) = false → false = true)) ∧ (((readsB ts rg (0 : Int) == readsW ws (IntKind.wrap IntKind.i64 rg) (0 : Int)) == true) = false → false = true)) ∧ (decide (List.length (thoseW ws (-1 : Int) tk (32 : Nat)) = (0 : Nat)) = false → (u32s (whL (bkT ts) (bP ts tk) (16 : Nat)) = u32s (ints (u32s (whL (bkT ts) (bP ts tk) (16 : Nat)))) ∧ i64s (thoseW ws (-1 : Int) tk (32 : Nat)) = i64s (ints (u32s (whL (bkT ts) (bP ts tk) (16 : Nat)))) ∧ List.length (whL (bkT ts) (bP ts tk) (16 : Nat)) = List.length (ints (u32s (whL (bkT ts) (bP ts tk) (16 : Nat)))) ∧ List.length (thoseW ws (-1 : Int) tk (32 : Nat)) = List.length (ints (u32s (whL (bkT ts) (bP ts tk) (16 : Nat)))) ∧ List.length (ints (u32s (whL (bkT ts) (bP ts tk) (16 : Nat)))) ≤ (32 : Nat) ∧ InR (u32s (whL (bkT ts) (bP ts tk) (16 : Nat))) ∧ True) ∧ (Array.size ts = (144 : Nat) ∧ True) ∧ (TsOk ts ∧ ((0 : Int) ≤ (0 : Int) ∧ (0 : Int) < (4294967296 : Int)) ∧ True) ∧ (Array.size ws = (224 : Nat) ∧ True) ∧ (WsOk ws ∧ True) ∧ (((readsB ts rg (0 : Int) == readsW ws (IntKind.wrap IntKind.i64 rg) (0 : Int)) == true) = true → (Array.size ts = (144 : Nat) ∧ True) ∧ (TsOk ts ∧ ((0 : Int) ≤ (0 : Int) ∧ (0 : Int) < (4294967296 : Int)) ∧ True) ∧ (Array.size ws = (224 : Nat) ∧ True) ∧ (WsOk ws ∧ True) ∧ (((writesB ts rg (0 : Int) == writesW ws (IntKind.wrap IntKind.i64 rg) (0 : Int)) == true) = true → true = true) ∧ (((writesB ts rg (0 : Int) == writesW ws (IntKind.wrap IntKind.i64 rg) (0 : Int)) == true) = false → false = true)) ∧ (((readsB ts rg (0 : Int) == readsW ws (IntKind.wrap IntKind.i64 rg) (0 : Int)) == true) = false → false = true))))) ∧ (decide (List.length (whL (bkT ts) (aP ts rg) (16 : Nat)) = (0 : Nat)) = false → (Array.size ws = (224 : Nat) ∧ True) ∧ (WsOk ws ∧ True) ∧ (decide (List.length (thoseW ws (IntKind.wrap IntKind.i64 rg) (-1 : Int) (32 : Nat)) = (0 : Nat)) = true → (False ∧ True) ∧ (Array.size ts = (144 : Nat) ∧ True) ∧ (Array.size ts = (144 : Nat) ∧ True) ∧ (TsOk ts ∧ True) ∧ (decide (List.length (whL (bkT ts) (bP ts tk) (16 : Nat)) = (0 : Nat)) = true → (Array.size ws = (224 : Nat) ∧ True) ∧ (WsOk ws ∧ True) ∧ (decide (List.length (thoseW ws (-1 : Int) tk (32 : Nat)) = (0 : Nat)) = true → (Array.size ts = (144 : Nat) ∧ True) ∧ (TsOk ts ∧ ((0 : Int) ≤ (0 : Int) ∧ (0 : Int) < (4294967296 : Int)) ∧ True) ∧ (Array.size ws = (224 : Nat) ∧ True) ∧ (WsOk ws ∧ True) ∧ (((readsB ts rg (0 : Int) == readsW ws (IntKind.wrap IntKind.i64 rg) (0 : Int)) == true) = true → (Array.size ts = (144 : Nat) ∧ True) ∧ (TsOk ts ∧ ((0 : Int) ≤ (0 : Int) ∧ (0 : Int) < (4294967296 : Int)) ∧ True) ∧ (Array.size ws = (224 : Nat) ∧ True) ∧ (WsOk ws ∧ True) ∧ (((writesB ts rg (0 : Int) == writesW ws (IntKind.wrap IntKind.i64 rg) (0 : Int)) == true) = true → true = true) ∧ (((writesB ts rg (0 : Int) == writesW ws (IntKind.wrap IntKind.i64 rg) (0 : Int)) == true) = false → false = true)) ∧ (((readsB ts rg (0 : Int) == readsW ws (IntKind.wrap IntKind.i64 rg) (0 : Int)) == true) = false → false = true)) ∧ (decide (List.length (thoseW ws (-1 : Int) tk (32 : Nat)) = (0 : Nat)) = false → (False ∧ True) ∧ (Array.size ts = (144 : Nat) ∧ True) ∧ (TsOk ts ∧ ((0 : Int) ≤ (0 : Int) ∧ (0 : Int) < (4294967296 : Int)) ∧ True) ∧ (Array.size ws = (224 : Nat) ∧ True) ∧ (WsOk ws ∧ True) ∧ (((readsB ts rg (0 : Int) == readsW ws (IntKind.wrap IntKind.i64 rg) (0 : Int)) == true) = true → (Array.size ts = (144 : Nat) ∧ True) ∧ (TsOk ts ∧ ((0 : Int) ≤ (0 : Int) ∧ (0 : Int) < (4294967296 : Int)) ∧ True) ∧ (Array.size ws = (224 : Nat) ∧ True) ∧ (WsOk ws ∧ True) ∧ (((writesB ts rg (0 : Int) == writesW ws (IntKind.wrap IntKind.i64 rg) (0 : Int)) == true) = true → true = true) ∧ (((writesB ts rg (0 : Int) == writesW ws (IntKind.wrap IntKind.i64 rg) (0 : Int)) == true) = false → false = true)) ∧ (((readsB ts rg (0 : Int) == readsW ws (IntKind.wrap IntKind.i64 rg) (0 : Int)) == true) = false → false = true))) ∧ (decide (List.length (whL (bkT ts) (bP ts tk) (16 : Nat)) = (0 : Nat)) = false → (Array.size ws = (224 : Nat) ∧ True) ∧ (WsOk ws ∧ True) ∧ (decide (List.length (thoseW ws (-1 : Int) tk (32 : Nat)) = (0 : Nat)) = true → (False ∧ True) ∧ (Array.size ts = (144 : Nat) ∧ True) ∧ (TsOk ts ∧ ((0 : Int) ≤ (0 : Int) ∧ (0 : Int) < (4294967296 : Int)) ∧ True) ∧ (Array.size ws = (224 : Nat) ∧ True) ∧ (WsOk ws ∧ True) ∧ (((readsB ts rg (0 : Int) == readsW ws (IntKind.wrap IntKind.i64 rg) (0 : Int)) == true) = true → (Array.size ts = (144 : Nat) ∧ True) ∧ (TsOk ts ∧ ((0 : Int) ≤ (0 : Int) ∧ (0 : Int) < (4294967296 : Int)) ∧ True) ∧ (Array.size ws = (224 : Nat) ∧ True) ∧ (WsOk ws ∧ True) ∧ (((writesB ts rg (0 : Int) == writesW ws (IntKind.wrap IntKind.i64 rg) (0 : Int)) == true) = true → true = true) ∧ (((writesB ts rg (0 : Int) == writesW ws (IntKind.wrap IntKind.i64 rg) (0 : Int)) == true) = false → false = true)) ∧ (((readsB ts rg (0 : Int) == readsW ws (IntKind.wrap IntKind.i64 rg) (0 : Int)) == true) = false → false = true)) ∧ (decide (List.length (thoseW ws (-1 : Int) tk (32 : Nat)) = (0 : Nat)) = false → (u32s (whL (bkT ts) (bP ts tk) (16 : Nat)) = u32s (ints (u32s (whL (bkT ts) (bP ts tk) (16 : Nat)))) ∧ i64s (thoseW ws (-1 : Int) tk (32 : Nat)) = i64s (ints (u32s (whL (bkT ts) (bP ts tk) (16 : Nat)))) ∧ List.length (whL (bkT ts) (bP ts tk) (16 : Nat)) = List.length (ints (u32s (whL (bkT ts) (bP ts tk) (16 : Nat)))) ∧ List.length (thoseW ws (-1 : Int) tk (32 : Nat)) = List.length (ints (u32s (whL (bkT ts) (bP ts tk) (16 : Nat)))) ∧ List.length (ints (u32s (whL (bkT ts) (bP ts tk) (16 : Nat)))) ≤ (32 : Nat) ∧ InR (u32s (whL (bkT ts) (bP ts tk) (16 : Nat))) ∧ True) ∧ (Array.size ts = (144 : Nat) ∧ True) ∧ (TsOk ts ∧ ((0 : Int) ≤ (0 : Int) ∧ (0 : Int) < (4294967296 : Int)) ∧ True) ∧ (Array.size ws = (224 : Nat) ∧ True) ∧ (WsOk ws ∧ True) ∧ (((readsB ts rg (0 : Int) == readsW ws (IntKind.wrap IntKind.i64 rg) (0 : Int)) == true) = true → (Array.size ts = (144 : Nat) ∧ True) ∧ (TsOk ts ∧ ((0 : Int) ≤ (0 : Int) ∧ (0 : Int) < (4294967296 : Int)) ∧ True) ∧ (Array.size ws = (224 : Nat) ∧ True) ∧ (WsOk ws ∧ True) ∧ (((writesB ts rg (0 : Int) == writesW ws (IntKind.wrap IntKind.i64 rg) (0 : Int)) == true) = true → true = true) ∧ (((writesB ts rg (0 : Int) == writesW ws (IntKind.wrap IntKind.i64 rg) (0 : Int)) == true) = false → false = true)) ∧ (((readsB ts rg (0 : Int) == readsW ws (IntKind.wrap IntKind.i64 rg) (0 : Int)) == true) = false → false = true)))) ∧ (decide (List.length (thoseW ws (IntKind.wrap IntKind.i64 rg) (-1 : Int) (32 : Nat)) = (0 : Nat)) = false → (u32s (whL (bkT ts) (aP ts rg) (16 : Nat)) = u32s (ints (u32s (whL (bkT ts) (aP ts rg) (16 : Nat)))) ∧ i64s (thoseW ws (IntKind.wrap IntKind.i64 rg) (-1 : Int) (32 : Nat)) = i64s (ints (u32s (whL (bkT ts) (aP ts rg) (16 : Nat)))) ∧ List.length (whL (bkT ts) (aP ts rg) (16 : Nat)) = List.length (ints (u32s (whL (bkT ts) (aP ts rg) (16 : Nat)))) ∧ List.length (thoseW ws (IntKind.wrap IntKind.i64 rg) (-1 : Int) (32 : Nat)) = List.length (ints (u32s (whL (bkT ts) (aP ts rg) (16 : Nat)))) ∧ List.length (ints (u32s (whL (bkT ts) (aP ts rg) (16 : Nat)))) ≤ (32 : Nat) ∧ InR (u32s (whL (bkT ts) (aP ts rg) (16 : Nat))) ∧ True) ∧ (Array.size ts = (144 : Nat) ∧ True) ∧ (Array.size ts = (144 : Nat) ∧ True) ∧ (TsOk ts ∧ True) ∧ (decide (List.length (whL (bkT ts) (bP ts tk) (16 : Nat)) = (0 : Nat)) = true → (Array.size ws = (224 : Nat) ∧ True) ∧ (WsOk ws ∧ True) ∧ (decide (List.length (thoseW ws (-1 : Int) tk (32 : Nat)) = (0 : Nat)) = true → (Array.size ts = (144 : Nat) ∧ True) ∧ (TsOk ts ∧ ((0 : Int) ≤ (0 : Int) ∧ (0 : Int) < (4294967296 : Int)) ∧ True) ∧ (Array.size ws = (224 : Nat) ∧ True) ∧ (WsOk ws ∧ True) ∧ (((readsB ts rg (0 : Int) == readsW ws (IntKind.wrap IntKind.i64 rg) (0 : Int)) == true) = true → (Array.size ts = (144 : Nat) ∧ True) ∧ (TsOk ts ∧ ((0 : Int) ≤ (0 : Int) ∧ (0 : Int) < (4294967296 : Int)) ∧ True) ∧ (Array.size ws = (224 : Nat) ∧ True) ∧ (WsOk ws ∧ True) ∧ (((writesB ts rg (0 : Int) == writesW ws (IntKind.wrap IntKind.i64 rg) (0 : Int)) == true) = true → true = true) ∧ (((writesB ts rg (0 : Int) == writesW ws (IntKind.wrap IntKind.i64 rg) (0 : Int)) == true) = false → false = true)) ∧ (((readsB ts rg (0 : Int) == readsW ws (IntKind.wrap IntKind.i64 rg) (0 : Int)) == true) = false → false = true)) ∧ (decide (List.length (thoseW ws (-1 : Int) tk (32 : Nat)) = (0 : Nat)) = false → (False ∧ True) ∧ (Array.size ts = (144 : Nat) ∧ True) ∧ (TsOk ts ∧ ((0 : Int) ≤ (0 : Int) ∧ (0 : Int) < (4294967296 : Int)) ∧ True) ∧ (Array.size ws = (224 : Nat) ∧ True) ∧ (WsOk ws ∧ True) ∧ (((readsB ts rg (0 : Int) == readsW ws (IntKind.wrap IntKind.i64 rg) (0 : Int)) == true) = true → (Array.size ts = (144 : Nat) ∧ True) ∧ (TsOk ts ∧ ((0 : Int) ≤ (0 : Int) ∧ (0 : Int) < (4294967296 : Int)) ∧ True) ∧ (Array.size ws = (224 : Nat) ∧ True) ∧ (WsOk ws ∧ True) ∧ (((writesB ts rg (0 : Int) == writesW ws (IntKind.wrap IntKind.i64 rg) (0 : Int)) == true) = true → true = true) ∧ (((writesB ts rg (0 : Int) == writesW ws (IntKind.wrap IntKind.i64 rg) (0 : Int)) == true) = false → false = true)) ∧ (((readsB ts rg (0 : Int) == readsW ws (IntKind.wrap IntKind.i64 rg) (0 : Int)) == true) = false → false = true))) ∧ (decide (List.length (whL (bkT ts) (bP ts tk) (16 : Nat)) = (0 : Nat)) = false → (Array.size ws = (224 : Nat) ∧ True) ∧ (WsOk ws ∧ True) ∧ (decide (List.length (thoseW ws (-1 : Int) tk (32 : Nat)) = (0 : Nat)) = true → (False ∧ True) ∧ (Array.size ts = (144 : Nat) ∧ True) ∧ (TsOk ts ∧ ((0 : Int) ≤ (0 : Int) ∧ (0 : Int) < (4294967296 : Int)) ∧ True) ∧ (Array.size ws = (224 : Nat) ∧ True) ∧ (WsOk ws ∧ True) ∧ (((readsB ts rg (0 : Int) == readsW ws (IntKind.wrap IntKind.i64 rg) (0 : Int)) == true) = true → (Array.size ts = (144 : Nat) ∧ True) ∧ (TsOk ts ∧ ((0 : Int) ≤ (0 : Int) ∧ (0 : Int) < (4294967296 : Int)) ∧ True) ∧ (Array.size ws = (224 : Nat) ∧ True) ∧ (WsOk ws ∧ True) ∧ (((writesB ts rg (0 : Int) == writesW ws (IntKind.wrap IntKind.i64 rg) (0 : Int)) == true) = true → true = true) ∧ (((writesB ts rg (0 : Int) == writesW ws (IntKind.wrap IntKind.i64 rg) (0 : Int)) == true) = false → false = true)) ∧ (((readsB ts rg (0 : Int) == readsW ws (IntKind.wrap IntKind.i64 rg) (0 : Int)) == true) = false → false = true)) ∧ (decide (List.length (thoseW ws (-1 : Int) tk (32 : Nat)) = (0 : Nat)) = false → (u32s (whL (bkT ts) (bP ts tk) (16 : Nat)) = u32s (ints (u32s (whL (bkT ts) (bP ts tk) (16 : Nat)))) ∧ i64s (thoseW ws (-1 : Int) tk (32 : Nat)) = i64s (ints (u32s (whL (bkT ts) (bP ts tk) (16 : Nat)))) ∧ List.length (whL (bkT ts) (bP ts tk) (16 : Nat)) = List.length (ints (u32s (whL (bkT ts) (bP ts tk) (16 : Nat)))) ∧ List.length (thoseW ws (-1 : Int) tk (32 : Nat)) = List.length (ints (u32s (whL (bkT ts) (bP ts tk) (16 : Nat)))) ∧ List.length (ints (u32s (whL (bkT ts) (bP ts tk) (16 : Nat)))) ≤ (32 : Nat) ∧ InR (u32s (whL (bkT ts) (bP ts tk) (16 : Nat))) ∧ True) ∧ (Array.size ts = (144 : Nat) ∧ True) ∧ (TsOk ts ∧ ((0 : Int) ≤ (0 : Int) ∧ (0 : Int) < (4294967296 : Int)) ∧ True) ∧ (Array.size ws = (224 : Nat) ∧ True) ∧ (WsOk ws ∧ True) ∧ (((readsB ts rg (0 : Int) == readsW ws (IntKind.wrap IntKind.i64 rg) (0 : Int)) == true) = true → (Array.size ts = (144 : Nat) ∧ True) ∧ (TsOk ts ∧ ((0 : Int) ≤ (0 : Int) ∧ (0 : Int) < (4294967296 : Int)) ∧ True) ∧ (Array.size ws = (224 : Nat) ∧ True) ∧ (WsOk ws ∧ True) ∧ (((writesB ts rg (0 : Int) == writesW ws (IntKind.wrap IntKind.i64 rg) (0 : Int)) == true) = true → true = true) ∧ (((writesB ts rg (0 : Int) == writesW ws (IntKind.wrap IntKind.i64 rg) (0 : Int)) == true) = false → false = true)) ∧ (((readsB ts rg (0 : Int) == readsW ws (IntKind.wrap IntKind.i64 rg) (0 : Int)) == true) = false → false = true))))))) := by kernel_rfl
end Go.Proofs.Ytnjmockpdmchcaa
/- Of token: TokenOneWriter: the law's states. -/
namespace Go.Proofs.Ytnjmockpdmchcaa
set_option maxRecDepth 100000
end Go.Proofs.Ytnjmockpdmchcaa
/- Of token: of a region at most one may write. No condition. -/
namespace Go.Proofs.Ytnjmockpdmchcaa
set_option maxRecDepth 100000
set_option linter.unusedSimpArgs false
set_option linter.unusedVariables false
section
variable {ts : Array Value} {g : Int}
inductive Ch (ts : Array Value) (u : Int) : Int → Prop
  | self : Ch ts u u
  | up {c : Int} : Ch ts u c → c ≠ 0 → Ch ts u (rA ts c)
end
end Go.Proofs.Ytnjmockpdmchcaa
/- Of token: TokenOneWriter: its runs end with true. No condition. -/
namespace Go.Proofs.Ytnjmockpdmchcaa
set_option maxRecDepth 100000
set_option linter.unusedSimpArgs false
set_option linter.unusedVariables false
theorem conL_ok : ∀ g l m t, conL g l m = some t → Con E0 g l m t := by
  intro g l m t h
  unfold conL at h
  split at h
  · cases h; exact wakes_con m
  · rename_i ts x; cases h
    refine Con.args (l' := [tkS ts, u32 x.den]) (fun R vs ha => by
      match vs, ha with
      | [v, w], ha => exact ⟨ha.1, ha.2.1, trivial⟩) ?_
    exact return_con x.den m
  · rename_i ts r; cases h
    refine Con.asked fun hq => Con.args (l' := [tkS ts, u32 r.den]) (fun R vs ha => by
      match vs, ha with
      | [v, w], ha => exact ⟨ha.1, ha.2.1, trivial⟩) ?_
    intro A hs
    exact clear_con r.den m A ⟨fun p hp => hq p hp, hs⟩
  · rename_i ts r b t' mu a; cases h
    refine Con.asked fun hq => Con.args (l' := [tkS ts, tokS r.den b.den t'.den mu.den a.den]) (fun R vs ha => by
      match vs, ha with
      | [v, w], ⟨h0, ⟨cs, e, h1⟩, _⟩ =>
        refine ⟨h0, ⟨cs, e, ?_⟩, trivial⟩
        have h1 : All2 (SC.ok R) [.f (.int .u32 r), .f (.int .u8 b), .f (.int .u8 t'), .f (.bool mu), .f (.int .u32 a)] cs.toList := h1
        show All2 (SC.ok R) [.f (.int .u32 (.o r.den)), .f (.int .u8 (.o b.den)), .f (.int .u8 (.o t'.den)), .f (.bool (.o mu.den)), .f (.int .u32 (.o a.den))] cs.toList
        revert h1
        generalize cs.toList = l
        intro h1
        match l, h1 with
        | [a0, a1, a2, a3, a4], h1 => exact h1) ?_
    intro A hs
    exact lend_con r.den b.den t'.den mu.den a.den m A ⟨fun p hp => hq p hp, hs⟩
  · exact conU_ok 0 _ _ _ _ h
def ActOk (cs : Array Value) (p : Nat) : Prop := IsInt .u8 cs p ∧ IsInt .u32 cs (p + 1) ∧ IsInt .u32 cs (p + 2) ∧ IsInt .u8 cs (p + 3) ∧ IsInt .u8 cs (p + 4) ∧ IsBool cs (p + 5) ∧ IsInt .u32 cs (p + 6) ∧
  inH (intAt cs (p + 1)) ∧ inH (intAt cs (p + 2)) ∧ (0 ≤ intAt cs (p + 3) ∧ intAt cs (p + 3) ≤ 255) ∧ (0 ≤ intAt cs (p + 4) ∧ intAt cs (p + 4) ≤ 255) ∧ inH (intAt cs (p + 6))
def ActsOk (cs : Array Value) (off n : Nat) : Prop := ∀ i, i < n → ActOk cs (off + i * 7)
theorem zero_in : inH 0 := ⟨by decide, by decide⟩
section
variable {ts : Array Value}
variable {cs : Array Value} {off n : Nat} {ty : TypeId}
end
end Go.Proofs.Ytnjmockpdmchcaa
/- Of token: TokenOneWriter: however it is called, it ends with true. No condition. -/
namespace Go.Proofs.Ytnjmockpdmchcaa
set_option maxRecDepth 100000
set_option linter.unusedSimpArgs false
set_option linter.unusedVariables false
def bkL : Nat → List Value
  | 0 => []
  | n + 1 => .int .u32 0 :: .int .u8 0 :: bkL n
theorem bkL_at : ∀ (n i : Nat), i < n → (bkL n)[i * 2]? = some (.int .u32 0) ∧ (bkL n)[i * 2 + 1]? = some (.int .u8 0)
  | n + 1, 0, _ => ⟨rfl, rfl⟩
  | n + 1, i + 1, h => by
    have := bkL_at n i (by omega)
    rw [show (i + 1) * 2 = i * 2 + 1 + 1 by omega]
    exact this
  | 0, _, h => by omega
theorem bkL_len : ∀ n, (bkL n).length = n * 2
  | 0 => rfl
  | n + 1 => by show (bkL n).length + 1 + 1 = _; rw [bkL_len]; omega
def z5 : List Value := [.int .u32 0, .int .u8 0, .int .u8 0, .bool false, .int .u32 0]
def tkL : Nat → List Value
  | 0 => []
  | n + 1 => .int .u32 0 :: .int .u8 0 :: .int .u8 0 :: .bool false :: .int .u32 0 :: tkL n
theorem tkL_at : ∀ (n i j : Nat), i < n → j < 5 → (tkL n)[i * 5 + j]? = z5[j]?
  | n + 1, 0, j, _, hj => by
    match j, hj with
    | 0, _ | 1, _ | 2, _ | 3, _ | 4, _ => rfl
  | n + 1, i + 1, j, h, hj => by
    have := tkL_at n i j (by omega) hj
    rw [show (i + 1) * 5 + j = i * 5 + j + 1 + 1 + 1 + 1 + 1 by omega]
    exact this
  | 0, _, _, h, _ => by omega
theorem tkL_len : ∀ n, (tkL n).length = n * 5
  | 0 => rfl
  | n + 1 => by show (tkL n).length + 1 + 1 + 1 + 1 + 1 = _; rw [tkL_len]; omega
def zT : Array Value := (bkL 32 ++ tkL 16).toArray
theorem zT_size : zT.size = 144 := by
  unfold zT
  rw [List.size_toArray, List.length_append, bkL_len, tkL_len]
theorem zT_bk {k : Nat} (hk : k < 64) : zT[k]? = (bkL 32)[k]? := by
  unfold zT
  rw [List.getElem?_toArray, List.getElem?_append_left (by rw [bkL_len]; omega)]
theorem zT_tk {i j : Nat} (hi : i < 16) (hj : j < 5) : zT[64 + i * 5 + j]? = z5[j]? := by
  unfold zT
  rw [List.getElem?_toArray, List.getElem?_append_right (by rw [bkL_len]; omega), bkL_len, show 64 + i * 5 + j - 32 * 2 = i * 5 + j by omega]
  exact tkL_at 16 i j hi hj
theorem bkT_at {k : Nat} (hk : k < 64) : (bkT zT)[k]? = (bkL 32)[k]? := by
  unfold bkT
  rw [ext_get (by rw [zT_size]; omega) (by omega), Nat.zero_add, zT_bk hk]
theorem zT_kind {i : Nat} (hi : i < 32) : kindAt (bkT zT) i = 0 := by
  show intAt _ _ = 0
  exact intAt_of ((bkT_at (by omega)).trans (bkL_at 32 i hi).2)
theorem zT_age {i : Nat} (hi : i < 32) : ageAt (bkT zT) i = 0 := by
  show intAt _ _ = 0
  exact intAt_of ((bkT_at (by omega)).trans (bkL_at 32 i hi).1)
theorem zT_tk5 {i : Nat} (hi : i < 16) : tk5 zT i = #[.int .u32 0, .int .u8 0, .int .u8 0, .bool false, .int .u32 0] := by
  apply Array.ext_getElem?
  intro j
  by_cases c : j < 5
  · rw [tk5_get zT_size hi c, zT_tk hi c]
    match j, c with
    | 0, _ | 1, _ | 2, _ | 3, _ | 4, _ => rfl
  · rw [Array.getElem?_eq_none (by rw [tk5_size zT_size hi]; omega), Array.getElem?_eq_none (by show 5 ≤ j; omega)]
theorem zT_ok : TsOk zT := by
  refine ⟨zT_size, ⟨?_, fun i hi => isI_of ((bkT_at (by omega)).trans (bkL_at 32 i hi).1), fun i hi => isI_of ((bkT_at (by omega)).trans (bkL_at 32 i hi).2), fun i hi => by rw [zT_age hi]; omega, fun i hi => by rw [zT_kind hi]; omega⟩, fun i hi => by rw [zT_tk5 hi]; exact zero_tk, fun i _ hi => zT_kind hi⟩
  unfold bkT
  rw [ext_size (by rw [zT_size]; omega)]
theorem zT_inv : Inv zT := by
  have hno : ∀ x, ¬ gd zT x := by
    intro x hx
    obtain ⟨i, hi, hk, _⟩ := (goodB_iff zT_ok.bk).1 hx
    rw [zT_kind hi] at hk
    cases hk
  exact ⟨zT_ok, fun x hx => absurd hx (hno x), fun x hx => absurd hx (hno x), fun x y hx => absurd hx (hno x), fun x hx => absurd hx (hno x), fun _ => 0, 0, fun x hx => absurd hx (hno x), fun x hx => absurd hx (hno x)⟩
theorem zT_eq : #[.int .u32 0, .int .u8 0, .int .u32 0, .int .u8 0, .int .u32 0, .int .u8 0, .int .u32 0, .int .u8 0, .int .u32 0, .int .u8 0, .int .u32 0, .int .u8 0, .int .u32 0, .int .u8 0, .int .u32 0, .int .u8 0, .int .u32 0, .int .u8 0, .int .u32 0, .int .u8 0, .int .u32 0, .int .u8 0, .int .u32 0, .int .u8 0, .int .u32 0, .int .u8 0, .int .u32 0, .int .u8 0, .int .u32 0, .int .u8 0, .int .u32 0, .int .u8 0, .int .u32 0, .int .u8 0, .int .u32 0, .int .u8 0, .int .u32 0, .int .u8 0, .int .u32 0, .int .u8 0, .int .u32 0, .int .u8 0, .int .u32 0, .int .u8 0, .int .u32 0, .int .u8 0, .int .u32 0, .int .u8 0, .int .u32 0, .int .u8 0, .int .u32 0, .int .u8 0, .int .u32 0, .int .u8 0, .int .u32 0, .int .u8 0, .int .u32 0, .int .u8 0, .int .u32 0, .int .u8 0, .int .u32 0, .int .u8 0, .int .u32 0, .int .u8 0, .int .u32 0, .int .u8 0, .int .u8 0, .bool false, .int .u32 0, .int .u32 0, .int .u8 0, .int .u8 0, .bool false, .int .u32 0, .int .u32 0, .int .u8 0, .int .u8 0, .bool false, .int .u32 0, .int .u32 0, .int .u8 0, .int .u8 0, .bool false, .int .u32 0, .int .u32 0, .int .u8 0, .int .u8 0, .bool false, .int .u32 0, .int .u32 0, .int .u8 0, .int .u8 0, .bool false, .int .u32 0, .int .u32 0, .int .u8 0, .int .u8 0, .bool false, .int .u32 0, .int .u32 0, .int .u8 0, .int .u8 0, .bool false, .int .u32 0, .int .u32 0, .int .u8 0, .int .u8 0, .bool false, .int .u32 0, .int .u32 0, .int .u8 0, .int .u8 0, .bool false, .int .u32 0, .int .u32 0, .int .u8 0, .int .u8 0, .bool false, .int .u32 0, .int .u32 0, .int .u8 0, .int .u8 0, .bool false, .int .u32 0, .int .u32 0, .int .u8 0, .int .u8 0, .bool false, .int .u32 0, .int .u32 0, .int .u8 0, .int .u8 0, .bool false, .int .u32 0, .int .u32 0, .int .u8 0, .int .u8 0, .bool false, .int .u32 0, .int .u32 0, .int .u8 0, .int .u8 0, .bool false, .int .u32 0] = zT := by kernel_rfl
end Go.Proofs.Ytnjmockpdmchcaa
/- Of token: TokenPlays: rounds. No condition. -/
namespace Go.Proofs.Ytnjmockpdmchcaa
set_option maxRecDepth 100000
set_option linter.unusedSimpArgs false
set_option linter.unusedVariables false
theorem conA_ok (ts : Array Value) : ∀ g l m t, conA ts g l m = some t → Con E0 g l m t := by
  intro g l m t h
  unfold conA at h
  split at h
  · rename_i ws x; cases h
    refine Con.asked fun hq => Con.args (l' := [wsS ws, u32 x.den]) (fun R vs ha => by
      match vs, ha with
      | [u, v], ha => exact ⟨ha.1, ha.2.1, trivial⟩) ?_
    intro A hs
    exact name_con x.den m A ⟨fun p hp => hq p hp, hs⟩
  · rename_i ws x; cases h
    refine Con.args (l' := [wsS ws, i64 (.o x.den)]) (fun R vs ha => by
      match vs, ha with
      | [u, v], ha => exact ⟨ha.1, ha.2.1, trivial⟩) ?_
    exact rreturn_con x.den m
  · cases h
    exact row_nil m
  · rename_i i n1 j n2
    split at h
    · rename_i rs w1 ss w2 hb1 hb2
      cases h
      refine Con.asked fun hq => ?_
      have e1 : rs = u32s (ints rs) := hq _ (by simp)
      have e2 : ss = i64s (ints rs) := hq (ss = i64s (ints rs)) (List.mem_cons_of_mem _ (List.mem_cons_self ..))
      have e3 : n1.den = (ints rs).length := hq _ (by simp)
      have e4 : n2.den = (ints rs).length := hq (n2.den = (ints rs).length) (List.mem_cons_of_mem _ (List.mem_cons_of_mem _ (List.mem_cons_of_mem _ (List.mem_cons_self ..))))
      have e5 : (ints rs).length ≤ 32 := hq _ (by simp)
      have e6 : InR rs := hq _ (by simp)
      have hb1' : getB m.bl i = some ⟨.pop (u32s (ints rs)), 30, w1⟩ := by rw [← e1]; exact hb1
      have hb2' : getB m.bl j = some ⟨.pop (i64s (ints rs)), 3, w2⟩ := by rw [← e2]; exact hb2
      intro A hs
      refine row_con e3 e4 hb1' hb2' A ⟨fun p hp => ?_, hs⟩
      simp only [List.mem_cons, List.not_mem_nil, or_false] at hp
      rcases hp with rfl | rfl
      · exact e5
      · exact e6
    · cases h
  · cases h
    refine Con.asked fun hq => ?_
    have : False := hq _ (by simp)
    exact this.elim
  · rename_i ws x; cases h
    refine Con.asked fun hq => Con.args (l' := [wsS ws, i64 (.o x.den)]) (fun R vs ha => by
      match vs, ha with
      | [u, v], ha => exact ⟨ha.1, ha.2.1, trivial⟩) ?_
    intro A hs
    exact rclear_con x.den m A ⟨fun p hp => hq p hp, hs⟩
  · rename_i ws r b t mu a; cases h
    refine Con.asked fun hq => Con.args (l' := [wsS ws, tkW r.den b.den t.den mu.den a.den]) (fun R vs ha => by
      match vs, ha with
      | [v, w], ⟨h0, ⟨cs, e, h1⟩, _⟩ =>
        refine ⟨h0, ⟨cs, e, ?_⟩, trivial⟩
        have h1 : All2 (SC.ok R) [.f (.int .i64 r), .f (.int .i64 b), .f (.int .i64 t), .f (.bool mu), .f (.int .i64 a)] cs.toList := h1
        show All2 (SC.ok R) [.f (.int .i64 (.o r.den)), .f (.int .i64 (.o b.den)), .f (.int .i64 (.o t.den)), .f (.bool (.o mu.den)), .f (.int .i64 (.o a.den))] cs.toList
        revert h1
        generalize cs.toList = l
        intro h1
        match l, h1 with
        | [a0, a1, a2, a3, a4], h1 => exact h1) ?_
    intro A hs
    exact rlend_con r.den b.den t.den mu.den a.den m A ⟨fun p hp => hq p hp, hs⟩
  · rename_i ts ws; cases h
    refine Con.asked fun hq => ?_
    intro A hs
    exact same_con ts ws m A ⟨fun p hp => hq p hp, hs⟩
  · rename_i ws x y; cases h
    refine Con.args (l' := [wsS ws, i64 (.o x.den), i64 (.o y.den)]) (fun R vs ha => by
      match vs, ha with
      | [u, v, w], ha => exact ⟨ha.1, ha.2.1, ha.2.2.1, trivial⟩) ?_
    exact those_con x.den y.den m
  · rename_i ws x y; cases h
    refine Con.asked fun hq => Con.args (l' := [wsS ws, i64 (.o x.den), i64 (.o y.den)]) (fun R vs ha => by
      match vs, ha with
      | [u, v, w], ha => exact ⟨ha.1, ha.2.1, ha.2.2.1, trivial⟩) ?_
    intro A hs
    exact rreads_con x.den y.den m A ⟨fun p hp => hq p hp, hs⟩
  · rename_i ws x y; cases h
    refine Con.asked fun hq => Con.args (l' := [wsS ws, i64 (.o x.den), i64 (.o y.den)]) (fun R vs ha => by
      match vs, ha with
      | [u, v, w], ha => exact ⟨ha.1, ha.2.1, ha.2.2.1, trivial⟩) ?_
    intro A hs
    exact rwrites_con x.den y.den m A ⟨fun p hp => hq p hp, hs⟩
  · exact conL_ok _ _ _ _ h
theorem EA_ok (ts : Array Value) : EnvOk (EA ts) := EnvOk.with E0_ok _ _ (conA_ok ts)
section
variable {off n : Nat} {cs : Array Value} {ty : TypeId} {rg tk : Int}
theorem pBC_good {A : SV → SMem → Prop} {QB : Int → Array Value → Array Value → Array Value → Array Value → Prop} {QC : Array Value → Array Value → Array Value → Array Value → Prop} {fs : List SFr} {m : SMem} (hB : ∀ i ts hs ws vs, QB i ts hs ws vs → Good Try.prog A 1 (pB_F off n cs ty rg tk i ts hs ws vs) (pB_M off n cs ty rg tk i ts hs ws vs)) (hC : ∀ ts hs ws vs, QC ts hs ws vs → Good Try.prog A 1 (pC_F rg tk ts hs ws vs) (pC_M rg tk ts hs ws vs)) (hb : pBC off n cs ty rg tk QB QC fs m) : Good Try.prog A 1 fs m := by
  unfold pBC at hb
  split at hb
  · exact pB_good hB hb
  · exact pC_good hC hb
theorem inR_hs {l : List Int} (h : HsOk l) : InR (u32s l) := by
  unfold InR InL
  rw [ints_u32s]
  exact fun y hy => (h y hy).1
theorem pC_ok {ts hs ws vs : Array Value} (hr : inH rg) (h : SameT ts ws) (h2 : SameT hs vs) : Good Try.prog (isB true) 1 (pC_F rg tk ts hs ws vs) (pC_M rg tk ts hs ws vs) := by
  refine past_vc (EA_ok ts) 1000 (pc rg tk ts hs ws vs) ?_ (fun _ _ h => h) (fun fs m hb => hb.elim)
  have s1 := h.ok.sz
  have s2 := h.w.sz
  have s3 := h2.ok.sz
  have s4 := h2.w.sz
  have ok := h.ok
  have w := h.w
  have er := i64_h hr
  have e1 : whL (bkT ts) (aP ts rg) 16 = onL ts rg := rfl
  have e2 : whL (bkT ts) (bP ts tk) 16 = ofL ts tk := rfl
  have z1 : ((0 : Int) ≤ 0) := by decide
  have z2 : ((0 : Int) < 4294967296) := by decide
  by_cases ht : tk < 0
  · have d : decide (tk < 0) = true := decide_eq_true ht
    have e : ofL ts tk = [] := by
      rw [List.eq_nil_iff_forall_not_mem]
      intro y hy
      have := (wh_good h.ok hy).2
      have h3 := (h.ok.tk _ this.2).ht
      have h4 := this.1
      unfold bP at h4
      rw [beq_iff_eq] at h4
      omega
    simp only [d, e2, e, s1, ok, List.length_nil, decide_true, true_implies, Bool.true_eq_false, false_implies, and_true, true_and]
  · have d : decide (tk < 0) = false := decide_eq_false ht
    have t1 := those_on h hr.1
    have t2 := those_of h (t := tk) (by omega)
    have rd := reads_t h.ok h.c (ws := ws)
    have wd := writes_t h.ok h.c (ws := ws)
    have i1 := inR_hs (wh_hs (p := aP ts rg) h.ok)
    have i2 := inR_hs (wh_hs (p := bP ts tk) h.ok)
    have l1 : (onL ts rg).length ≤ 32 := Nat.le_trans (whL_le 16) (by decide)
    have l2 : (ofL ts tk).length ≤ 32 := Nat.le_trans (whL_le 16) (by decide)
    rw [e1] at i1
    rw [e2] at i2
    simp only [d, e1, e2, er, t1, t2, rd, wd, i1, i2, l1, l2, z1, z2, ints_u32s, s1, s2, s3, s4, ok, w, h2, beqT, beq_self_eq_true, true_implies, Bool.true_eq_false, Bool.false_eq_true, false_implies, and_true, true_and]
    cases c1 : decide ((onL ts rg).length = 0) <;> cases c2 : decide ((ofL ts tk).length = 0)
    all_goals
      simp only [c1, c2, true_implies, Bool.true_eq_false, Bool.false_eq_true, false_implies, and_true, true_and]
theorem pB_ok {i : Nat} {ts hs ws vs : Array Value} (hn : n ≤ 150) (hi : i < n) (h : SameT ts ws) (h2 : SameT hs vs) (H : ∀ hs' vs', SameT hs' vs' → Good Try.prog (isB true) 1 (pA_F off n cs ty rg tk ((i + 1 : Nat) : Int) ts hs' ws vs') (pA_M off n cs ty rg tk ((i + 1 : Nat) : Int) ts hs' ws vs')) : Good Try.prog (isB true) 1 (pB_F off n cs ty rg tk (i : Int) ts hs ws vs) (pB_M off n cs ty rg tk (i : Int) ts hs ws vs) := by
  refine past_vc (EA_ok ts) 1000 (pb off n cs ty rg tk (i : Int) ts hs ws vs (fun i' t' h' w' v' => i' = ((i + 1 : Nat) : Int) ∧ t' = ts ∧ w' = ws ∧ SameT h' v')) ?_ (fun _ _ h => h) (fun fs m hb => pA_good (fun i' t' h' w' v' ⟨e1, e2, e3, e4⟩ => by rw [e1, e2, e3]; exact H h' v' e4) hb)
  have ei : ari .add .i64 (i : Int) 1 = ((i + 1 : Nat) : Int) := by rw [ari_add, i64_in' (by omega) (by omega)]; omega
  have s1 := h.ok.sz
  have s2 := h.w.sz
  have s3 := h2.ok.sz
  have s4 := h2.w.sz
  simp only [ei, s1, s2, s3, s4, h, h2, true_implies, and_true, true_and, pA_d0_ok]
  exact ⟨fun _ => trivial, fun _ => trivial⟩
theorem out_224 {ws : Array Value} (h : WsOk ws) (l : List Int) : (outW ws l l.length).size = 224 := (outW_ok h l l.length).1.sz
theorem plays (ha : ActsOk cs off n) (hn : n ≤ 150) (hr : inH rg) : ∀ (m i : Nat) (ts hs ws vs : Array Value), i ≤ n → n - i < m → Inv ts → SameT ts ws → SameT hs vs → Good Try.prog (isB true) 1 (pA_F off n cs ty rg tk (i : Int) ts hs ws vs) (pA_M off n cs ty rg tk (i : Int) ts hs ws vs) := by
  intro m
  induction m with
  | zero => intro i ts hs ws vs _ h; omega
  | succ m ih =>
    intro i ts hs ws vs hin hm h h1 h2
    refine past_vc (EA_ok ts) 1000 (pa off n cs ty rg tk (i : Int) ts hs ws vs (fun i' t' h' w' v' => i' = (i : Int) ∧ h' = hs ∧ v' = vs ∧ i < n ∧ Inv t' ∧ SameT t' w') (fun t' h' w' v' => t' = ts ∧ h' = hs ∧ w' = ws ∧ v' = vs)) ?_ (fun _ _ h => h)
      (fun fs m hb => pBC_good (fun i' t' h' w' v' ⟨e1, e2, e3, e4, e5, e6⟩ => by rw [e1, e2, e3]; exact pB_ok hn e4 e6 h2 (fun hs' vs' h3 => ih (i + 1) t' hs' w' vs' (by omega) (by omega) e5 e6 h3)) (fun t' h' w' v' ⟨e1, e2, e3, e4⟩ => by rw [e1, e2, e3, e4]; exact pC_ok hr h1 h2) hb)
    by_cases hi : i < n
    · have d0 : decide ((i : Int) < (n : Int)) = true := decide_eq_true (by omega)
      have hx0 : 0 ≤ (i : Int) := by omega
      have hx1 : (i : Int) < (n : Int) := by omega
      obtain ⟨a0, a1, a2, a3, a4, a5, a6, b1, b2, b3, b4, b6⟩ := ha i hi
      have ok := h.ok
      have w := h1.w
      have s1 := ok.sz
      have s2 := w.sz
      have b1' : 0 ≤ intAt cs (off + i * 7 + 1) ∧ intAt cs (off + i * 7 + 1) < 4294967296 := b1
      have b6' : 0 ≤ intAt cs (off + i * 7 + 6) ∧ intAt cs (off + i * 7 + 6) < 4294967296 := b6
      have hx := nameW_in w b1
      have hxu := u32_h hx
      have hy := nameW_in w b6
      have hyu := u32_h hy
      cases c0 : (intAt cs (off + i * 7) == 0) with
      | true =>
        simp only [Int.toNat_natCast, d0, hx0, hx1, a0, a1, a2, a3, a4, a5, a6, b1', c0, hxu]
        generalize nameW ws (intAt cs (off + i * 7 + 1)) = x at hx
        have hx' : 0 ≤ x ∧ x < 4294967296 := hx
        cases hg : goodB (bkT ts) x with
        | true =>
          have hv := h.ret (x := x) hg
          have hvs := hv.ok.sz
          have hd := h.deep (x := x) hg
          have hs' := same_ret h h1 hg
          have hws := out_224 w (retL ts x)
          have hiR : InR (u32s (retL ts x)) := inR_hs (gone_hs h.ok)
          have hle : (retL ts x).length ≤ 32 := gone_len
          simp only [hg, hx', ok, w, s1, s2, h, h1, hv, hvs, hd, hs', hws, hiR, hle, ints_u32s, bne_self_eq_false, beqF, hi, Bool.not_false, decide_true, true_implies, Bool.true_eq_false, Bool.false_eq_true, false_implies, and_true, true_and, pB_d0_ok]
        | false =>
          simp only [hg, hx', ok, w, s1, s2, h, h1, bne_self_eq_false, beqF, hi, Bool.not_false, decide_true, true_implies, Bool.true_eq_false, Bool.false_eq_true, false_implies, and_true, true_and, pB_d0_ok]
      | false =>
        cases c1 : (intAt cs (off + i * 7) == 1) with
        | true =>
          have hv := h.clear (intAt cs (off + i * 7 + 2))
          have hvs := hv.ok.sz
          have hs' := same_clear h1 b2.1
          have hws := hs'.w.sz
          have er := i64_h b2
          simp only [Int.toNat_natCast, d0, hx0, hx1, a0, a1, a2, a3, a4, a5, a6, b1', c0, c1, er, ok, w, s1, s2, hv, hvs, hs', hws, hi, decide_true, true_implies, Bool.true_eq_false, Bool.false_eq_true, false_implies, and_true, true_and, pB_d0_ok]
        | false =>
          have hv := h.lend (r := intAt cs (off + i * 7 + 2)) (b := intAt cs (off + i * 7 + 3)) (t := intAt cs (off + i * 7 + 4)) (mu := boolAt cs (off + i * 7 + 5)) (a := nameW ws (intAt cs (off + i * 7 + 6))) b2 b3 b4 hy
          have hvs := hv.ok.sz
          have hs' := same_lend (r := intAt cs (off + i * 7 + 2)) (b := intAt cs (off + i * 7 + 3)) (t := intAt cs (off + i * 7 + 4)) (mu := boolAt cs (off + i * 7 + 5)) (a := nameW ws (intAt cs (off + i * 7 + 6))) h h1 b2 b3 b4 hy
          have hws := hs'.w.sz
          have e2 := i64_h b2
          have e3 : IntKind.i64.wrap (intAt cs (off + i * 7 + 3)) = intAt cs (off + i * 7 + 3) := i64_in' (by omega) (by omega)
          have e4 : IntKind.i64.wrap (intAt cs (off + i * 7 + 4)) = intAt cs (off + i * 7 + 4) := i64_in' (by omega) (by omega)
          have e6 := i64_h hy
          have hy' : 0 ≤ nameW ws (intAt cs (off + i * 7 + 6)) ∧ nameW ws (intAt cs (off + i * 7 + 6)) < 4294967296 := hy
          have hl : inH (lendI ts (intAt cs (off + i * 7 + 2)) (intAt cs (off + i * 7 + 3)) (intAt cs (off + i * 7 + 4)) (boolAt cs (off + i * 7 + 5)) (nameW ws (intAt cs (off + i * 7 + 6)))) := by
            unfold lendI
            split
            · exact (issue_in ok).1
            · exact zero_in
          have el := i64_h hl
          simp only [Int.toNat_natCast, d0, hx0, hx1, a0, a1, a2, a3, a4, a5, a6, b1', b6', c0, c1, hyu, hy', e2, e3, e4, e6, el, h1, ok, w, s1, s2, hv, hvs, hs', hws, hi, bne_self_eq_false, beqF, Bool.not_false, decide_true, true_implies, Bool.true_eq_false, Bool.false_eq_true, false_implies, and_true, true_and, pB_d0_ok]
    · have d0 : decide ((i : Int) < (n : Int)) = false := decide_eq_false (by omega)
      simp only [d0, true_implies, Bool.true_eq_false, Bool.false_eq_true, false_implies, and_true, true_and, pC_d0_ok]
end
end Go.Proofs.Ytnjmockpdmchcaa
/- Of token: TokenPlays: no acts. No condition. -/
namespace Go.Proofs.Ytnjmockpdmchcaa
set_option linter.unusedVariables false
noncomputable def EAz : Env := ⟨Try.prog, fnOf, conA #[], haltAt [3032]⟩
noncomputable def pzT (rg tk : Int) : Tree := run EAz 1000 1 [callFr 3 Try.f3.ntmps [eS, u32 rg, i64 (.o tk)] (Try.f3.body.getD .skip)] (mkM 1 [])
end Go.Proofs.Ytnjmockpdmchcaa
/- Of token: TokenPlays: no acts. -/
namespace Go.Proofs.Ytnjmockpdmchcaa
set_option maxRecDepth 100000
theorem pz (rg tk : Int) (QC : Array Value → Array Value → Array Value → Array Value → Prop) : (pzT rg tk).vc (isB true) (pC_n rg tk QC) =
    (QC zA35 zA35 zA43 zA43 ∧ CallKind.normal = CallKind.normal ∧ TodoOk (ren 1 [(1, 1), (2, 2), (3, 3), (4, 4)]) pC_d0 pC_d0 ∧ rg = rg ∧ tk = tk ∧ (35 : TypeId) = (35 : Nat) ∧ zA35 = zA35 ∧ (43 : TypeId) = (43 : Nat) ∧ zA43 = zA43 ∧ (35 : TypeId) = (35 : Nat) ∧ zA35 = zA35 ∧ (43 : TypeId) = (43 : Nat) ∧ zA43 = zA43 ∧ True) := by kernel_rfl
end Go.Proofs.Ytnjmockpdmchcaa
/- Of token: TokenPlays: however it is called, it ends with true. No condition. -/
namespace Go.Proofs.Ytnjmockpdmchcaa
set_option maxRecDepth 100000
set_option linter.unusedSimpArgs false
set_option linter.unusedVariables false
def z5W : List Value := [.int .i64 0, .int .i64 0, .int .i64 0, .bool false, .int .i64 0]
def wkL : Nat → List Value
  | 0 => []
  | n + 1 => .int .i64 0 :: .int .i64 0 :: .int .i64 0 :: .bool false :: .int .i64 0 :: wkL n
theorem wkL_at : ∀ (n i j : Nat), i < n → j < 5 → (wkL n)[i * 5 + j]? = z5W[j]?
  | n + 1, 0, j, _, hj => by
    match j, hj with
    | 0, _ | 1, _ | 2, _ | 3, _ | 4, _ => rfl
  | n + 1, i + 1, j, h, hj => by
    have := wkL_at n i j (by omega) hj
    rw [show (i + 1) * 5 + j = i * 5 + j + 1 + 1 + 1 + 1 + 1 by omega]
    exact this
  | 0, _, _, h, _ => by omega
theorem wkL_len : ∀ n, (wkL n).length = n * 5
  | 0 => rfl
  | n + 1 => by show (wkL n).length + 1 + 1 + 1 + 1 + 1 = _; rw [wkL_len]; omega
def zW : Array Value := (List.replicate 64 (Value.int .i64 0) ++ wkL 32).toArray
theorem zW_size : zW.size = 224 := by
  unfold zW
  rw [List.size_toArray, List.length_append, List.length_replicate, wkL_len]
theorem zW_rb {k : Nat} (hk : k < 64) : zW[k]? = some (.int .i64 0) := by
  unfold zW
  rw [List.getElem?_toArray, List.getElem?_append_left (by rw [List.length_replicate]; exact hk), List.getElem?_replicate, if_pos hk]
theorem zW_wk {i j : Nat} (hi : i < 32) (hj : j < 5) : zW[64 + i * 5 + j]? = z5W[j]? := by
  unfold zW
  rw [List.getElem?_toArray, List.getElem?_append_right (by rw [List.length_replicate]; omega), List.length_replicate, show 64 + i * 5 + j - 64 = i * 5 + j by omega]
  exact wkL_at 32 i j hi hj
theorem zW_rbT {k : Nat} (hk : k < 64) : (rbT zW)[k]? = some (.int .i64 0) := by
  unfold rbT
  rw [ext_get (by rw [zW_size]; omega) (by omega), Nat.zero_add, zW_rb hk]
theorem zW_ok : WsOk zW := by
  have e : ∀ i j, i < 32 → j < 5 → zW[64 + i * 5 + j]? = z5W[j]? := fun i j hi hj => zW_wk hi hj
  refine ⟨zW_size, ⟨?_, fun k hk => isI_of (zW_rbT hk), fun i hi => ?_⟩, fun i hi => isI_of (e i 0 hi (by decide)), fun i hi => isI_of (e i 1 hi (by decide)), fun i hi => isI_of (e i 2 hi (by decide)), fun i hi => isBo_of (e i 3 hi (by decide)), fun i hi => isI_of (e i 4 hi (by decide))⟩
  · unfold rbT
    rw [ext_size (by rw [zW_size]; omega)]
  · unfold genW
    rw [intAt_of (zW_rbT (by omega))]
    omega
theorem z_same : SameT zT zW := by
  refine ⟨zT_ok, zW_ok, fun i hi => ⟨?_, ?_⟩, fun i hi hk => ?_⟩
  · rw [zT_age hi]
    exact intAt_of (zW_rbT (by omega))
  · rw [zT_kind hi]
    exact intAt_of (zW_rbT (by omega))
  · rw [zT_kind (by omega)] at hk
    cases hk
theorem zW_eq : #[Value.int .i64 0, .int .i64 0, .int .i64 0, .int .i64 0, .int .i64 0, .int .i64 0, .int .i64 0, .int .i64 0, .int .i64 0, .int .i64 0, .int .i64 0, .int .i64 0, .int .i64 0, .int .i64 0, .int .i64 0, .int .i64 0, .int .i64 0, .int .i64 0, .int .i64 0, .int .i64 0, .int .i64 0, .int .i64 0, .int .i64 0, .int .i64 0, .int .i64 0, .int .i64 0, .int .i64 0, .int .i64 0, .int .i64 0, .int .i64 0, .int .i64 0, .int .i64 0, .int .i64 0, .int .i64 0, .int .i64 0, .int .i64 0, .int .i64 0, .int .i64 0, .int .i64 0, .int .i64 0, .int .i64 0, .int .i64 0, .int .i64 0, .int .i64 0, .int .i64 0, .int .i64 0, .int .i64 0, .int .i64 0, .int .i64 0, .int .i64 0, .int .i64 0, .int .i64 0, .int .i64 0, .int .i64 0, .int .i64 0, .int .i64 0, .int .i64 0, .int .i64 0, .int .i64 0, .int .i64 0, .int .i64 0, .int .i64 0, .int .i64 0, .int .i64 0, .int .i64 0, .int .i64 0, .int .i64 0, .bool false, .int .i64 0, .int .i64 0, .int .i64 0, .int .i64 0, .bool false, .int .i64 0, .int .i64 0, .int .i64 0, .int .i64 0, .bool false, .int .i64 0, .int .i64 0, .int .i64 0, .int .i64 0, .bool false, .int .i64 0, .int .i64 0, .int .i64 0, .int .i64 0, .bool false, .int .i64 0, .int .i64 0, .int .i64 0, .int .i64 0, .bool false, .int .i64 0, .int .i64 0, .int .i64 0, .int .i64 0, .bool false, .int .i64 0, .int .i64 0, .int .i64 0, .int .i64 0, .bool false, .int .i64 0, .int .i64 0, .int .i64 0, .int .i64 0, .bool false, .int .i64 0, .int .i64 0, .int .i64 0, .int .i64 0, .bool false, .int .i64 0, .int .i64 0, .int .i64 0, .int .i64 0, .bool false, .int .i64 0, .int .i64 0, .int .i64 0, .int .i64 0, .bool false, .int .i64 0, .int .i64 0, .int .i64 0, .int .i64 0, .bool false, .int .i64 0, .int .i64 0, .int .i64 0, .int .i64 0, .bool false, .int .i64 0, .int .i64 0, .int .i64 0, .int .i64 0, .bool false, .int .i64 0, .int .i64 0, .int .i64 0, .int .i64 0, .bool false, .int .i64 0, .int .i64 0, .int .i64 0, .int .i64 0, .bool false, .int .i64 0, .int .i64 0, .int .i64 0, .int .i64 0, .bool false, .int .i64 0, .int .i64 0, .int .i64 0, .int .i64 0, .bool false, .int .i64 0, .int .i64 0, .int .i64 0, .int .i64 0, .bool false, .int .i64 0, .int .i64 0, .int .i64 0, .int .i64 0, .bool false, .int .i64 0, .int .i64 0, .int .i64 0, .int .i64 0, .bool false, .int .i64 0, .int .i64 0, .int .i64 0, .int .i64 0, .bool false, .int .i64 0, .int .i64 0, .int .i64 0, .int .i64 0, .bool false, .int .i64 0, .int .i64 0, .int .i64 0, .int .i64 0, .bool false, .int .i64 0, .int .i64 0, .int .i64 0, .int .i64 0, .bool false, .int .i64 0, .int .i64 0, .int .i64 0, .int .i64 0, .bool false, .int .i64 0, .int .i64 0, .int .i64 0, .int .i64 0, .bool false, .int .i64 0, .int .i64 0, .int .i64 0, .int .i64 0, .bool false, .int .i64 0, .int .i64 0, .int .i64 0, .int .i64 0, .bool false, .int .i64 0, .int .i64 0, .int .i64 0, .int .i64 0, .bool false, .int .i64 0, .int .i64 0, .int .i64 0, .int .i64 0, .bool false, .int .i64 0] = zW := by kernel_rfl
section
variable {off n : Nat} {cs : Array Value} {ty : TypeId} {rg tk : Int}
theorem play_row (ha : ActsOk cs off n) (hr : inH rg) : Good Try.prog (isB true) 1 [callFr 3 Try.f3.ntmps [acS off n, u32 rg, i64 (.o tk)] (Try.f3.body.getD .skip)] (mkM 1 [(0, ⟨.raw cs, ty, false⟩)]) := by
  refine run_vc (EA_ok #[]) 1000 (p0 off n cs ty rg tk (fun i t h w v => i = ((0 : Nat) : Int) ∧ t = zT ∧ h = zT ∧ w = zW ∧ v = zW ∧ n ≤ 150)) ?_ (fun s m h => h)
    (fun fs m hb => pA_good (fun i t h w v ⟨e1, e2, e3, e4, e5, e6⟩ => by rw [e1, e2, e3, e4, e5]; exact plays ha e6 hr (n + 1) 0 zT zT zW zW (by omega) (by omega) zT_inv z_same z_same) hb)
  by_cases c : n > 150
  · have d : decide ((n : Int) > 150) = true := decide_eq_true (by omega)
    simp only [d, true_implies, Bool.true_eq_false, Bool.false_eq_true, false_implies, and_true, true_and]
  · have d : decide ((n : Int) > 150) = false := decide_eq_false (by omega)
    simp only [d, true_implies, Bool.true_eq_false, Bool.false_eq_true, false_implies, and_true, true_and, pA_d0_ok]
    repeat' first | exact zT_eq | exact zW_eq | exact rfl | omega | apply And.intro
theorem EAz_ok : EnvOk EAz := EnvOk.with E0_ok _ _ (conA_ok #[])
theorem play_none (hr : inH rg) : Good Try.prog (isB true) 1 [callFr 3 Try.f3.ntmps [eS, u32 rg, i64 (.o tk)] (Try.f3.body.getD .skip)] (mkM 1 []) := by
  refine run_vc EAz_ok 1000 (pz rg tk (fun t h w v => t = zT ∧ h = zT ∧ w = zW ∧ v = zW)) ?_ (fun s m h => h)
    (fun fs m hb => pC_good (fun t h w v ⟨e1, e2, e3, e4⟩ => by rw [e1, e2, e3, e4]; exact pC_ok hr z_same z_same) hb)
  simp only [and_true, true_and, pC_d0_ok]
  repeat' first | exact zT_eq | exact zW_eq | exact rfl | apply And.intro
end
end Go.Proofs.Ytnjmockpdmchcaa
