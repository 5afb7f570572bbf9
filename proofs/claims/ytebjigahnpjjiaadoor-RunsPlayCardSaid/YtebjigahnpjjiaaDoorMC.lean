/- Of runs: the document's functions: what they answer. No condition. -/
import Derived.Test.YtebjigahnpjjiaaDoorMB
namespace Go.Proofs.YtebjigahnpjjiaaDoor
set_option maxRecDepth 100000
/-- A row of truths. -/
def arrF (f : Nat → Bool) : Array Value := ((List.range 64).map fun i => Value.bool (f i)).toArray
theorem arrF_size (f : Nat → Bool) : (arrF f).size = 64 := by
  unfold arrF
  rw [List.size_toArray, List.length_map, List.length_range]
theorem arrF_get (f : Nat → Bool) {i : Nat} (h : i < 64) : (arrF f)[i]? = some (.bool (f i)) := by
  unfold arrF
  rw [List.getElem?_toArray, List.getElem?_map, List.getElem?_range h]
  rfl
theorem arrF_ext {cs : Array Value} {f : Nat → Bool} (h1 : cs.size = 64) (h2 : ∀ i, i < 64 → cs[i]? = some (.bool (f i))) : cs = arrF f := by
  apply Array.ext_getElem?
  intro i
  by_cases h : i < 64
  · rw [h2 i h, arrF_get f h]
  · rw [Array.getElem?_eq_none (by omega), Array.getElem?_eq_none (by rw [arrF_size]; omega)]
theorem arrF_congr {f g : Nat → Bool} (h : ∀ i, i < 64 → f i = g i) : arrF f = arrF g :=
  arrF_ext (arrF_size f) fun i hi => by rw [arrF_get f hi, h i hi]
theorem arrF_bool (f : Nat → Bool) {i : Nat} (h : i < 64) : IsBool (arrF f) i ∧ boolAt (arrF f) i = f i := by
  have := arrF_get f h
  unfold IsBool boolAt
  rw [this]
  exact ⟨rfl, rfl⟩
theorem arrF_set (f : Nat → Bool) {k : Nat} (hk : k < 64) (v : Bool) : (arrF f).setIfInBounds k (.bool v) = arrF fun i => if i = k then v else f i := by
  refine arrF_ext (by rw [Array.size_setIfInBounds, arrF_size]) fun i hi => ?_
  rw [Array.getElem?_setIfInBounds]
  by_cases e : i = k
  · subst e
    rw [if_pos rfl, if_pos (by rw [arrF_size]; exact hi), if_pos rfl]
  · rw [if_neg (fun h => e h.symm), if_neg e, arrF_get f hi]
/-- A set's row. -/
def arrW (X : BitVec 64) : Array Value := arrF fun i => X.getLsbD i
theorem zero_row : #[Value.bool false, Value.bool false, Value.bool false, Value.bool false, Value.bool false, Value.bool false, Value.bool false, Value.bool false, Value.bool false, Value.bool false, Value.bool false, Value.bool false, Value.bool false, Value.bool false, Value.bool false, Value.bool false, Value.bool false, Value.bool false, Value.bool false, Value.bool false, Value.bool false, Value.bool false, Value.bool false, Value.bool false, Value.bool false, Value.bool false, Value.bool false, Value.bool false, Value.bool false, Value.bool false, Value.bool false, Value.bool false, Value.bool false, Value.bool false, Value.bool false, Value.bool false, Value.bool false, Value.bool false, Value.bool false, Value.bool false, Value.bool false, Value.bool false, Value.bool false, Value.bool false, Value.bool false, Value.bool false, Value.bool false, Value.bool false, Value.bool false, Value.bool false, Value.bool false, Value.bool false, Value.bool false, Value.bool false, Value.bool false, Value.bool false, Value.bool false, Value.bool false, Value.bool false, Value.bool false, Value.bool false, Value.bool false, Value.bool false, Value.bool false] = arrF fun _ => false := rfl
section
variable {A : SV → SMem → Prop}
theorem nxc_good {h : Bool} {E : Env} {c : List SFr} {sl : List (Nat × SV)} {bl : List (Nat × SA)} {fs : List SFr} {m : SMem} (hb : (cond h nxH nxF) E c sl bl fs m) (hg : Good E.P A 0 (stH E c sl) (stM E c bl)) : Good E.P A 0 fs m := by
  cases h with
  | true => exact Good.of_sub hb hg
  | false => exact Good.of_sub hb (Good.head hg)
theorem n7_good {h : Bool} {p : Int} {Q : Int → Array Value → Prop} {fs : List SFr} {m : SMem} (hb : n7 h p Q fs m) (hg : ∀ i cs, Q i cs → Good ER1.P A 0 (stH ER1 (ofC p) [(4, i64 (.o i))]) (stM ER1 (ofC p) [(1, .op cs)])) : Good ER1.P A 0 fs m := by
  unfold n7 at hb
  split at hb
  case h_2 => exact hb.elim
  split at hb
  case h_2 => exact hb.elim
  exact nxc_good hb.2 (hg _ _ hb.1)
theorem n8_good {h : Bool} {cs : Array Value} {a n : Int} {b : Bool} {Q : Int → Prop} {fs : List SFr} {m : SMem} (hb : n8 h cs a n b Q fs m) (hg : ∀ i, Q i → Good ER1.P A 0 (stH ER1 (isC cs a n b) [(9, i64 (.o i))]) (stM ER1 (isC cs a n b) [])) : Good ER1.P A 0 fs m := by
  unfold n8 at hb
  split at hb
  case h_2 => exact hb.elim
  split at hb
  case h_2 => exact hb.elim
  exact nxc_good hb.2 (hg _ hb.1)
theorem n11_good {h : Bool} {c0 : Array Value} {a n : Int} {b : Bool} {Q : Int → Array Value → Prop} {fs : List SFr} {m : SMem} (hb : n11 h c0 a n b Q fs m) (hg : ∀ i cs, Q i cs → Good ER1.P A 0 (stH ER1 (withC c0 a n b) [(9, i64 (.o i))]) (stM ER1 (withC c0 a n b) [(0, .op cs)])) : Good ER1.P A 0 fs m := by
  unfold n11 at hb
  split at hb
  case h_2 => exact hb.elim
  split at hb
  case h_2 => exact hb.elim
  exact nxc_good hb.2 (hg _ _ hb.1)
theorem nx2_good {h : Bool} {E : Env} {c : List SFr} {sl : List (Nat × SV)} {π : List (Nat × Nat)} {m0 : SMem} {fs : List SFr} {m : SMem} (hb : subOk 0 π ((cond h stH stF) E c sl) m0 fs m) (hg : Good E.P A 0 (stH E c sl) m0) : Good E.P A 0 fs m := by
  cases h with
  | true => exact Good.of_sub hb hg
  | false => exact Good.of_sub hb (Good.head hg)
theorem n25_good {h : Bool} {c0 : Array Value} {Q : Int → Ro → Prop} {fs : List SFr} {m : SMem} (hb : n25 h c0 Q fs m) (hg : ∀ i T, Q i T → Good ER1.P A 0 (stH ER1 (rrC c0) (rrSl T i)) (rrM c0 T)) : Good ER1.P A 0 fs m := by
  unfold n25 at hb
  split at hb
  case h_2 => exact hb.elim
  split at hb
  · exact nx2_good hb.2 (hg _ _ hb.1)
  · exact nx2_good hb.2 (hg _ _ hb.1)
  · exact hb.elim
end
/-! The first pages. -/
def ofF (p : Int) (k : Nat) : Array Value := arrF fun j => decide (j < k ∧ (j : Int) < p)
theorem of7_good (p : Int) : ∀ (j k : Nat), 64 - k < j → k ≤ 64 → Good ER1.P (aggA (ofF p 64)) 0 (stH ER1 (ofC p) [(4, i64 (.o (k : Int)))]) (stM ER1 (ofC p) [(1, .op (ofF p k))]) := by
  intro j
  induction j with
  | zero => intro k h; omega
  | succ j ih =>
    intro k hj hk
    refine past_vc ER1_ok 1000 (of7_step p k (ofF p k) (ofF p 64) (fun i cs => i = ((k + 1 : Nat) : Int) ∧ cs = ofF p (k + 1) ∧ k < 64)) ?_ (fun _ _ h => h) (fun fs m hb => n7_good hb fun i cs ⟨e1, e2, e3⟩ => by
      rw [e1, e2]; exact ih (k + 1) (by omega) (by omega))
    have hs : (ofF p k).size = 64 := arrF_size _
    refine ⟨fun h => ?_, fun h => ?_⟩
    · have hlt : k < 64 := by
        have : ((k : Nat) : Int) < 64 := by simpa using h
        omega
      have e1 : IntKind.i64.wrap ((k : Int) + 1) = ((k + 1 : Nat) : Int) := wrap_in (by omega) (by omega)
      have e2 : 0 + Int.toNat (k : Int) * 1 = k := by simp
      rw [ari_add, e1, e2]
      refine ⟨⟨⟨by omega, by omega⟩, trivial⟩, ⟨by rw [hs]; exact hlt, trivial⟩, ⟨rfl, ?_, hlt⟩, ?_⟩
      · unfold ofF
        rw [arrF_set _ hlt]
        refine arrF_congr fun i _ => ?_
        by_cases e : i = k
        · subst e
          rw [if_pos rfl]
          simp
        · rw [if_neg e]
          have : (i < k + 1 ∧ (i : Int) < p) ↔ (i < k ∧ (i : Int) < p) := by omega
          rw [decide_eq_decide.2 this]
      · repeat' first | exact trivial | apply And.intro | exact rfl
    · have : ¬ ((k : Nat) : Int) < 64 := by simpa using h
      have : k = 64 := by omega
      subst this
      simp only [hs]
      repeat' first | exact trivial | apply And.intro | exact rfl
theorem ofF_row (p : Int) : ofF p 64 = arrW (lowW (clampN p)) := by
  unfold ofF arrW
  have hc : clampN p ≤ 64 := by unfold clampN; split <;> first | omega | (split <;> omega)
  refine arrF_congr fun i hi => ?_
  rw [lowW_bit _ _ hc, decide_eq_decide]
  unfold clampN
  split <;> first | omega | (split <;> omega)
theorem of7_con (p : Int) (m : SMem) : Con E0 7 [i64 (.o p)] m (needs [] (.ret (agg (arrW (lowW (clampN p)))) m)) := by
  refine Con.pure E0_ok (by kernel_rfl : E0.fn 7 = some Tryd.f7) (by kernel_rfl : Tryd.f7.body = some (Tryd.f7.body.getD .skip)) (by kernel_rfl) (by kernel_rfl) fun _ => ?_
  rw [← ofF_row]
  refine (Good.ret (m := ⟨0, .nil, []⟩) (s0m := ⟨0, .nil, []⟩) (s0 := agg (ofF p 64)) [] ?_).mono fun _ _ h => h.1
  show Good ER1.P _ 0 (ofC p) _
  refine run_vc ER1_ok 1000 (of7_start p (fun i cs => i = ((0 : Nat) : Int) ∧ cs = ofF p 0)) ?_ (fun _ _ h => h.elim) (fun fs m hb => n7_good hb fun i cs ⟨e1, e2⟩ => by rw [e1, e2]; exact of7_good p 65 0 (by omega) (by omega))
  refine ⟨⟨rfl, ?_⟩, ?_⟩
  · rw [zero_row]
    exact arrF_congr fun i _ => by simp
  · repeat' first | exact trivial | apply And.intro | exact rfl
/-! Is a run so? -/
section
variable (X : BitVec 64) (a n : Int) (b : Bool)
def isR : Bool := mayB a n && allIn X a.toNat n.toNat b
theorem is_good (hm : mayB a n = true) : ∀ (j k : Nat), n.toNat - k < j → k ≤ n.toNat → (∀ i, a.toNat ≤ i → i < a.toNat + k → X.getLsbD i = b) → Good ER1.P (boolA (isR X a n b)) 0 (stH ER1 (isC (arrW X) a n b) [(9, i64 (.o (k : Int)))]) (stM ER1 (isC (arrW X) a n b) []) := by
  have hm' := mayB_iff.1 hm
  intro j
  induction j with
  | zero => intro k h; omega
  | succ j ih =>
    intro k hj hk hI
    refine past_vc ER1_ok 1000 (is_step (arrW X) a n k b (isR X a n b) (fun i => i = ((k + 1 : Nat) : Int) ∧ k < n.toNat ∧ X.getLsbD (a.toNat + k) = b)) ?_ (fun _ _ h => h) (fun fs m hb => n8_good hb fun i ⟨e1, e2, e3⟩ => by
      rw [e1]; exact ih (k + 1) (by omega) (by omega) fun i h1 h2 => by
        by_cases e : i = a.toNat + k
        · rw [e]; exact e3
        · exact hI i h1 (by omega))
    have e1 : IntKind.i64.wrap ((k : Int) + 1) = ((k + 1 : Nat) : Int) := wrap_in (by omega) (by omega)
    refine ⟨fun h => ?_, fun h => ?_⟩
    · have hlt : (k : Int) < n := by simpa using h
      have e2 : IntKind.i64.wrap (a + (k : Int)) = ((a.toNat + k : Nat) : Int) := by rw [wrap_in (by omega) (by omega)]; omega
      have e3 : 0 + Int.toNat ((a.toNat + k : Nat) : Int) * 1 = a.toNat + k := by rw [Int.toNat_natCast]; omega
      have hlt2 : a.toNat + k < 64 := by omega
      obtain ⟨b1, b2⟩ := arrF_bool (fun i => X.getLsbD i) hlt2
      simp only [ari_add, e1, e2, e3]
      refine ⟨⟨⟨by omega, by omega⟩, trivial⟩, ⟨b1, trivial⟩, fun h => ?_, fun h => ⟨⟨by trivial, by omega, ?_⟩, ?_⟩⟩
      · have hne : X.getLsbD (a.toNat + k) ≠ b := by
          intro e
          rw [show boolAt (arrW X) (a.toNat + k) = X.getLsbD (a.toNat + k) from b2, e] at h
          simp at h
        refine ⟨?_, trivial⟩
        unfold isR
        rw [hm, Bool.true_and]
        cases hc : allIn X a.toNat n.toNat b with
        | false => rfl
        | true =>
          rw [allIn_iff (by omega)] at hc
          exact (hne (hc _ (by omega) (by omega))).elim
      · rw [show boolAt (arrW X) (a.toNat + k) = X.getLsbD (a.toNat + k) from b2] at h
        simpa using h
      · repeat' first | exact trivial | apply And.intro | exact rfl
    · have hge : ¬ (k : Int) < n := by simpa using h
      refine ⟨?_, trivial⟩
      unfold isR
      rw [hm, Bool.true_and, allIn_iff (by omega)]
      exact fun i h1 h2 => hI i h1 (by omega)
theorem is_con (m : SMem) : Con E0 8 [agg (arrW X), i64 (.o a), i64 (.o n), boolV b] m (needs [] (.ret (sB (.o (isR X a n b))) m)) := by
  refine Con.pure E0_ok (by kernel_rfl : E0.fn 8 = some Tryd.f8) (by kernel_rfl : Tryd.f8.body = some (Tryd.f8.body.getD .skip)) (by kernel_rfl) (by kernel_rfl) fun _ => ?_
  refine (Good.ret (m := ⟨0, .nil, []⟩) (s0m := ⟨0, .nil, []⟩) (s0 := sB (.o (isR X a n b))) [] ?_).mono fun _ _ h => h.1
  show Good ER1.P _ 0 (isC (arrW X) a n b) _
  refine run_vc ER1_ok 1000 (is_start (arrW X) a n b (isR X a n b) (fun i => i = ((0 : Nat) : Int) ∧ mayB a n = true)) ?_ (fun _ _ h => h) (fun fs m hb => n8_good hb fun i ⟨e1, e2⟩ => by rw [e1]; exact is_good X a n b e2 (n.toNat + 1) 0 (by omega) (by omega) fun i h1 h2 => by omega)
  have hno : ¬ (1 ≤ n ∧ 0 ≤ a ∧ a < 64 ∧ n ≤ 64 - a) → isR X a n b = false := by
    intro h
    unfold isR
    have : mayB a n = false := by
      cases hc : mayB a n with
      | false => rfl
      | true => exact (h (mayB_iff.1 hc)).elim
    rw [this]; rfl
  refine ⟨fun h1 => ⟨fun h2 => ⟨fun h3 => ⟨fun h4 => ?_, fun h4 => ?_⟩, fun h3 => ?_⟩, fun h2 => ?_⟩, fun h1 => ?_⟩
  · have h1 : ¬ n < 1 := by simpa using h1
    have h2 : ¬ n > 64 := by simpa using h2
    have h3 : ¬ a < 0 := by simpa using h3
    have h4 : ¬ a > 63 := by simpa using h4
    have e : IntKind.i64.wrap (a + n) = a + n := wrap_in (by omega) (by omega)
    rw [ari_add, e]
    refine ⟨fun h => ⟨hno ?_, trivial⟩, fun h => ⟨⟨rfl, mayB_iff.2 ?_⟩, ?_⟩⟩
    · have : a + n > 64 := by simpa using h
      omega
    · have : ¬ a + n > 64 := by simpa using h
      omega
    · repeat' first | exact trivial | apply And.intro | exact rfl
  · exact ⟨hno fun h => (by have hx : a > 63 := (by simpa using h4); omega), trivial⟩
  · exact ⟨hno fun h => (by have hx : a < 0 := (by simpa using h3); omega), trivial⟩
  · exact ⟨hno fun h => (by have hx : n > 64 := (by simpa using h2); omega), trivial⟩
  · exact ⟨hno fun h => (by have hx : n < 1 := (by simpa using h1); omega), trivial⟩
/-! A set with a run, or without it. -/
def withF (k : Nat) : Array Value := arrF fun j => if a.toNat ≤ j ∧ j < a.toNat + k then b else X.getLsbD j
def withW : BitVec 64 := if b = true then X ||| spanW a.toNat n.toNat else X &&& ~~~ spanW a.toNat n.toNat
theorem with_good (hm : mayB a n = true) : ∀ (j k : Nat), n.toNat - k < j → k ≤ n.toNat → Good ER1.P (aggA (withF X a b n.toNat)) 0 (stH ER1 (withC (arrW X) a n b) [(9, i64 (.o (k : Int)))]) (stM ER1 (withC (arrW X) a n b) [(0, .op (withF X a b k))]) := by
  have hm' := mayB_iff.1 hm
  intro j
  induction j with
  | zero => intro k h; omega
  | succ j ih =>
    intro k hj hk
    refine past_vc ER1_ok 1000 (with_step (arrW X) (withF X a b k) (withF X a b n.toNat) a n k b (fun i cs => i = ((k + 1 : Nat) : Int) ∧ cs = withF X a b (k + 1) ∧ k < n.toNat)) ?_ (fun _ _ h => h) (fun fs m hb => n11_good hb fun i cs ⟨e1, e2, e3⟩ => by
      rw [e1, e2]; exact ih (k + 1) (by omega) (by omega))
    have hs : (withF X a b k).size = 64 := arrF_size _
    have e1 : IntKind.i64.wrap ((k : Int) + 1) = ((k + 1 : Nat) : Int) := wrap_in (by omega) (by omega)
    refine ⟨fun h => ?_, fun h => ?_⟩
    · have hlt : (k : Int) < n := by simpa using h
      have e2 : IntKind.i64.wrap (a + (k : Int)) = ((a.toNat + k : Nat) : Int) := by rw [wrap_in (by omega) (by omega)]; omega
      have e3 : 0 + Int.toNat ((a.toNat + k : Nat) : Int) * 1 = a.toNat + k := by rw [Int.toNat_natCast]; omega
      have hlt2 : a.toNat + k < 64 := by omega
      simp only [ari_add, e1, e2, e3]
      refine ⟨⟨⟨by omega, by omega⟩, trivial⟩, ⟨by rw [hs]; exact hlt2, trivial⟩, ⟨by trivial, ?_, by omega⟩, ?_⟩
      · unfold withF
        rw [arrF_set _ hlt2]
        refine arrF_congr fun i _ => ?_
        by_cases e : i = a.toNat + k
        · rw [if_pos e, if_pos (by omega)]
        · rw [if_neg e]
          by_cases e' : a.toNat ≤ i ∧ i < a.toNat + k
          · rw [if_pos e', if_pos (by omega)]
          · rw [if_neg e', if_neg (by omega)]
      · repeat' first | exact trivial | apply And.intro | exact rfl
    · have hge : ¬ (k : Int) < n := by simpa using h
      have : k = n.toNat := by omega
      subst this
      simp only [hs]
      repeat' first | exact trivial | apply And.intro | exact rfl
theorem withF_row (hm : mayB a n = true) : withF X a b n.toNat = arrW (withW X a n b) := by
  have hm' := mayB_iff.1 hm
  unfold withF arrW withW
  refine arrF_congr fun i hi => ?_
  have hb : a.toNat + n.toNat ≤ 64 := by omega
  cases b with
  | true =>
    rw [if_pos rfl, give_bit hb]
    by_cases e : a.toNat ≤ i ∧ i < a.toNat + n.toNat
    · rw [if_pos e, decide_eq_true e]; simp
    · rw [if_neg e, decide_eq_false e]; simp
  | false =>
    rw [if_neg (show ¬ (false = true) by decide), take_bit hb i hi]
    by_cases e : a.toNat ≤ i ∧ i < a.toNat + n.toNat
    · rw [if_pos e, decide_eq_true e]; simp
    · rw [if_neg e, decide_eq_false e]; simp
theorem with_con (m : SMem) : Con E0 11 [agg (arrW X), i64 (.o a), i64 (.o n), boolV b] m (needs [mayB a n = true] (.ret (agg (arrW (withW X a n b))) m)) := by
  refine Con.pure E0_ok (by kernel_rfl : E0.fn 11 = some Tryd.f11) (by kernel_rfl : Tryd.f11.body = some (Tryd.f11.body.getD .skip)) (by kernel_rfl) (by kernel_rfl) fun hq => ?_
  have hm : mayB a n = true := hq _ (List.mem_cons_self ..)
  rw [← withF_row X a n b hm]
  refine (Good.ret (m := ⟨0, .nil, []⟩) (s0m := ⟨0, .nil, []⟩) (s0 := agg (withF X a b n.toNat)) [] ?_).mono fun _ _ h => h.1
  show Good ER1.P _ 0 (withC (arrW X) a n b) _
  refine run_vc ER1_ok 1000 (with_start (arrW X) a n b (fun i cs => i = ((0 : Nat) : Int) ∧ cs = withF X a b 0)) ?_ (fun _ _ h => h.elim) (fun fs m hb => n11_good hb fun i cs ⟨e1, e2⟩ => by rw [e1, e2]; exact with_good X a n b hm (n.toNat + 1) 0 (by omega) (by omega))
  refine ⟨⟨rfl, ?_⟩, ?_⟩
  · unfold arrW withF
    exact arrF_congr fun i _ => by rw [if_neg (by omega)]
  · repeat' first | exact trivial | apply And.intro | exact rfl
end
end Go.Proofs.YtebjigahnpjjiaaDoor
/- Of runs: the document's rows of runs. No condition. -/
namespace Go.Proofs.YtebjigahnpjjiaaDoor
set_option maxRecDepth 100000
/-- The last run has a page more. -/
def bump (l : List (Nat × Nat)) : List (Nat × Nat) := match l.getLast? with
  | some r => l.dropLast ++ [(r.1, r.2 + 1)]
  | none => l
theorem bump_snoc (l : List (Nat × Nat)) (a n : Nat) : bump (l ++ [(a, n)]) = l ++ [(a, n + 1)] := by
  unfold bump
  simp
/-- The runs of the pages below one. -/
def runsUp (X : BitVec 64) : Nat → List (Nat × Nat)
  | 0 => []
  | k + 1 => if X.getLsbD k = true then (if 0 < k ∧ X.getLsbD (k - 1) = true then bump (runsUp X k) else runsUp X k ++ [(k, 1)]) else runsUp X k
theorem runsUp_no {X : BitVec 64} {k : Nat} (h : X.getLsbD k = false) : runsUp X (k + 1) = runsUp X k := by
  show (if _ then _ else _) = _
  rw [if_neg (by rw [h]; decide)]
theorem runsUp_bump {X : BitVec 64} {k : Nat} (h : X.getLsbD k = true) (h0 : 0 < k) (h1 : X.getLsbD (k - 1) = true) : runsUp X (k + 1) = bump (runsUp X k) := by
  show (if _ then _ else _) = _
  rw [if_pos h, if_pos ⟨h0, h1⟩]
theorem runsUp_new {X : BitVec 64} {k : Nat} (h : X.getLsbD k = true) (h1 : ¬ (0 < k ∧ X.getLsbD (k - 1) = true)) : runsUp X (k + 1) = runsUp X k ++ [(k, 1)] := by
  show (if _ then _ else _) = _
  rw [if_pos h, if_neg h1]
theorem runsUp_last (X : BitVec 64) : ∀ k, X.getLsbD k = true → ∃ l a n, runsUp X (k + 1) = l ++ [(a, n)] := by
  intro k
  induction k with
  | zero => intro h; exact ⟨_, _, _, runsUp_new h fun e => absurd e.1 (by omega)⟩
  | succ k ih =>
    intro h
    by_cases h1 : X.getLsbD k = true
    · obtain ⟨l, a, n, e⟩ := ih h1
      exact ⟨l, a, n + 1, by rw [runsUp_bump h (by omega) h1, e, bump_snoc]⟩
    · exact ⟨_, _, _, runsUp_new h fun e => h1 e.2⟩
theorem runsUp_len (X : BitVec 64) : ∀ k, (runsUp X k).length ≤ k
  | 0 => Nat.le_refl _
  | k + 1 => by
    have ih := runsUp_len X k
    cases h : X.getLsbD k with
    | false => rw [runsUp_no h]; omega
    | true =>
      by_cases h1 : 0 < k ∧ X.getLsbD (k - 1) = true
      · obtain ⟨l, a, n, e⟩ := runsUp_last X (k - 1) h1.2
        rw [runsUp_bump h h1.1 h1.2]
        rw [show k - 1 + 1 = k by omega] at e
        rw [e] at ih ⊢
        rw [bump_snoc]
        simp at ih ⊢
        omega
      · rw [runsUp_new h h1]
        simp
        exact ih
theorem runsUp_small (X : BitVec 64) : ∀ k, ∀ r ∈ runsUp X k, r.2 ≤ k
  | 0, r, h => by cases h
  | k + 1, r, h => by
    have ih := runsUp_small X k
    cases hX : X.getLsbD k with
    | false => rw [runsUp_no hX] at h; have := ih r h; omega
    | true =>
      by_cases h1 : 0 < k ∧ X.getLsbD (k - 1) = true
      · obtain ⟨l, a, n, e⟩ := runsUp_last X (k - 1) h1.2
        rw [show k - 1 + 1 = k by omega] at e
        rw [runsUp_bump hX h1.1 h1.2, e, bump_snoc] at h
        rw [e] at ih
        rcases List.mem_append.1 h with h | h
        · have := ih r (List.mem_append_left _ h); omega
        · have := ih (a, n) (List.mem_append_right _ (List.mem_singleton.2 rfl))
          rw [List.mem_singleton] at h
          subst h
          exact Nat.succ_le_succ this
      · rw [runsUp_new hX h1] at h
        rcases List.mem_append.1 h with h | h
        · have := ih r h; omega
        · rw [List.mem_singleton] at h
          subst h
          exact Nat.succ_le_succ (Nat.zero_le _)
theorem up_gap (X : BitVec 64) (p : Nat) : ∀ m, (∀ i, p ≤ i → i < p + m → X.getLsbD i = false) → runsUp X (p + m) = runsUp X p
  | 0, _ => rfl
  | m + 1, h => by
    rw [show p + (m + 1) = (p + m) + 1 by omega, runsUp_no (h (p + m) (by omega) (by omega))]
    exact up_gap X p m fun i h1 h2 => h i h1 (by omega)
theorem up_run (X : BitVec 64) (a : Nat) (hlo : a = 0 ∨ X.getLsbD (a - 1) = false) : ∀ n, (∀ i, a ≤ i → i < a + (n + 1) → X.getLsbD i = true) → runsUp X (a + (n + 1)) = runsUp X a ++ [(a, n + 1)]
  | 0, h => by
    refine runsUp_new (h a (Nat.le_refl _) (by omega)) ?_
    rintro ⟨h1, h2⟩
    rcases hlo with e | e
    · omega
    · rw [e] at h2; cases h2
  | n + 1, h => by
    rw [show a + (n + 1 + 1) = (a + (n + 1)) + 1 by omega, runsUp_bump (h (a + (n + 1)) (by omega) (by omega)) (by omega) (h (a + (n + 1) - 1) (by omega) (by omega)), up_run X a hlo n fun i h1 h2 => h i h1 (by omega), bump_snoc]
theorem runsUp_all (X : BitVec 64) : ∀ (j : Nat) (L : BitVec 64) (q : Nat), 64 - q < j → Part X L q → runsUp X 64 = runsUp X q ++ runsL j L := by
  intro j
  induction j with
  | zero => intro L q h; omega
  | succ j ih =>
    intro L q hq hP
    rw [runsL_succ]
    by_cases hL : L = 0#64
    · subst hL
      rw [if_pos rfl, List.append_nil]
      have := up_gap X q (64 - q) fun i h1 _ => hP.done i h1
      rw [show q + (64 - q) = 64 by have := hP.le; omega] at this
      exact this
    · rw [if_neg hL]
      obtain ⟨hr, hP'⟩ := hP.next hL
      have hn := hr.n1
      have hle := hr.le
      have hpa := hr.pa
      have e1 := up_gap X q (tz L - q) fun i h1 h2 => hr.gap i h1 (by omega)
      rw [show q + (tz L - q) = tz L by omega] at e1
      have e2 := up_run X (tz L) hr.lo (tzn L - 1) fun i h1 h2 => hr.all i h1 (by omega)
      rw [show tzn L - 1 + 1 = tzn L by omega] at e2
      rw [ih (nextW L) (tz L + tzn L) (by omega) hP', e2, e1, List.append_assoc]
      rfl
theorem runsUp_of (X : BitVec 64) : runsUp X 64 = runsOf X := runsUp_all X 65 X 0 (by omega) (Part.start X)
/-- A row of runs. -/
def roOf : List (Nat × Nat) → Ro
  | [] => none
  | r :: l => some ((r :: l).length, (cellsOf (r :: l)).toArray)
theorem roOf_eq {l : List (Nat × Nat)} (h : l ≠ []) : roOf l = some (l.length, (cellsOf l).toArray) := by
  cases l with
  | nil => exact (h rfl).elim
  | cons _ _ => rfl
theorem cells_push (l : List (Nat × Nat)) (a n : Nat) : (cellsOf l).toArray ++ #[Value.int .i64 (a : Int), Value.int .i64 (n : Int)] = (cellsOf (l ++ [(a, n)])).toArray := by
  rw [cellsOf_app]
  apply Array.ext'
  simp [cellsOf]
theorem cells_bump (l : List (Nat × Nat)) (a n : Nat) : IsInt .i64 (cellsOf (l ++ [(a, n)])).toArray (l.length * 2 + 1) ∧ intAt (cellsOf (l ++ [(a, n)])).toArray (l.length * 2 + 1) = (n : Nat) ∧
    (cellsOf (l ++ [(a, n)])).toArray.setIfInBounds (l.length * 2 + 1) (.int .i64 ((n + 1 : Nat) : Int)) = (cellsOf (l ++ [(a, n + 1)])).toArray := by
  have hl := cellsOf_len l
  have hg : (cellsOf (l ++ [(a, n)])).toArray[l.length * 2 + 1]? = some (.int .i64 (n : Nat)) := by
    rw [List.getElem?_toArray, cellsOf_app, List.getElem?_append_right (by omega), hl]
    rw [show l.length * 2 + 1 - l.length * 2 = 1 by omega]
    rfl
  have hi : intAt (cellsOf (l ++ [(a, n)])).toArray (l.length * 2 + 1) = (n : Nat) := by
    unfold intAt
    rw [hg]
  refine ⟨by unfold IsInt; rw [hi, hg], hi, ?_⟩
  rw [cellsOf_app, cellsOf_app]
  apply Array.ext'
  rw [Array.toList_setIfInBounds]
  show (cellsOf l ++ cellsOf [(a, n)]).set _ _ = _
  rw [List.set_append_right _ _ (by omega), hl, show l.length * 2 + 1 - l.length * 2 = 1 by omega]
  rfl
section
variable (X : BitVec 64)
theorem rr_good : ∀ (j k : Nat), 64 - k < j → k ≤ 64 → Good ER1.P (rrA (roOf (runsOf X))) 0 (stH ER1 (rrC (arrW X)) (rrSl (roOf (runsUp X k)) (k : Int))) (rrM (arrW X) (roOf (runsUp X k))) := by
  intro j
  induction j with
  | zero => intro k h; omega
  | succ j ih =>
    intro k hj hk
    have hgo : ∀ i T, i = ((k + 1 : Nat) : Int) ∧ T = roOf (runsUp X (k + 1)) ∧ k < 64 → Good ER1.P (rrA (roOf (runsOf X))) 0 (stH ER1 (rrC (arrW X)) (rrSl T i)) (rrM (arrW X) T) := by
      rintro i T ⟨rfl, rfl, h⟩
      exact ih (k + 1) (by omega) (by omega)
    have e1 : IntKind.i64.wrap ((k : Int) + 1) = ((k + 1 : Nat) : Int) := wrap_in (by omega) (by omega)
    have e2 : 0 + Int.toNat (k : Int) * 1 = k := by rw [Int.toNat_natCast]; omega
    have em : 0 < k → IntKind.i64.wrap ((k : Int) - 1) = ((k - 1 : Nat) : Int) := fun h => by rw [wrap_in (by omega) (by omega)]; omega
    have e3 : 0 + Int.toNat ((k - 1 : Nat) : Int) * 1 = k - 1 := by rw [Int.toNat_natCast]; omega
    have hb : k < 64 → IsBool (arrW X) k ∧ boolAt (arrW X) k = X.getLsbD k := fun h => arrF_bool (fun i => X.getLsbD i) h
    have hlen := runsUp_len X k
    by_cases hk64 : k = 64
    · subst hk64
      rw [runsUp_of]
      rw [runsUp_of] at hlen
      cases hl : runsOf X with
      | nil =>
        refine past_E ER1_ok 1000 (rr_noneE (arrW X) (64 : Nat) (fun _ _ => False)) ⟨rfl, rfl, trivial⟩ (fun _ _ h => h) (fun fs m hb => n25_good hb fun i T h => h.elim)
      | cons r l =>
        refine past_E ER1_ok 1000 (rr_someE (arrW X) (cellsOf (r :: l)).toArray (cellsOf (r :: l)).toArray (r :: l).length (r :: l).length (64 : Nat) (fun _ _ => False)) ?_ (fun _ _ h => h) (fun fs m hb => n25_good hb fun i T h => h.elim)
        refine ⟨rfl, ?_⟩
        repeat' first | exact trivial | apply And.intro | exact rfl
    · have hlt : k < 64 := by omega
      obtain ⟨b1, b2⟩ := hb hlt
      have hd : decide ((k : Int) < 64) = true := decide_eq_true (by omega)
      cases hX : X.getLsbD k with
      | false =>
        have hup : runsUp X (k + 1) = runsUp X k := runsUp_no hX
        rw [hX] at b2
        cases hl : runsUp X k with
        | nil =>
          refine past_T ER1_ok 1000 (rr_noneT (arrW X) k _ (fun i T => i = ((k + 1 : Nat) : Int) ∧ T = roOf (runsUp X (k + 1)) ∧ k < 64)) ?_ (fun _ _ h => h) (fun fs m hb => n25_good hb hgo)
          have hQ : (none : Ro) = roOf (runsUp X (k + 1)) := by rw [hup, hl]; rfl
          simp only [ari_add, e1, e2, b2, hd, Bool.not_false, true_implies, Bool.true_eq_false, false_implies, and_true, true_and]
          repeat' first | exact trivial | exact b1 | exact hQ | exact hlt | apply And.intro | intro _ | exact rfl | omega
        | cons r l =>
          refine past_T ER1_ok 1000 (rr_someT (arrW X) (cellsOf (r :: l)).toArray (r :: l).length k _ (fun i T => i = ((k + 1 : Nat) : Int) ∧ T = roOf (runsUp X (k + 1)) ∧ k < 64)) ?_ (fun _ _ h => h) (fun fs m hb => n25_good hb hgo)
          have hQ : (some ((r :: l).length, (cellsOf (r :: l)).toArray) : Ro) = roOf (runsUp X (k + 1)) := by rw [hup, hl]; rfl
          simp only [ari_add, e1, e2, b2, hd, Bool.not_false, true_implies, Bool.true_eq_false, false_implies, and_true, true_and]
          repeat' first | exact trivial | exact b1 | exact hQ | exact hlt | apply And.intro | intro _ | exact rfl | omega
      | true =>
        rw [hX] at b2
        by_cases h1 : 0 < k ∧ X.getLsbD (k - 1) = true
        · obtain ⟨l, a, n, el⟩ := runsUp_last X (k - 1) h1.2
          rw [show k - 1 + 1 = k by omega] at el
          have hup : runsUp X (k + 1) = l ++ [(a, n + 1)] := by rw [runsUp_bump hX h1.1 h1.2, el, bump_snoc]
          have hne : l ++ [(a, n)] ≠ [] := by simp
          have hll : (l ++ [(a, n)]).length = l.length + 1 := by simp
          obtain ⟨c1, c2, c3⟩ := cells_bump l a n
          obtain ⟨b3, b4⟩ : IsBool (arrW X) (k - 1) ∧ boolAt (arrW X) (k - 1) = X.getLsbD (k - 1) := arrF_bool (fun i => X.getLsbD i) (by omega)
          rw [h1.2] at b4
          rw [el, roOf_eq hne]
          rw [el] at hlen
          have hn : n ≤ 64 := by
            have := runsUp_small X k (a, n) (by rw [el]; exact List.mem_append_right _ (List.mem_singleton.2 rfl))
            have : n ≤ k := this
            omega
          refine past_T ER1_ok 1000 (rr_someT (arrW X) (cellsOf (l ++ [(a, n)])).toArray (l ++ [(a, n)]).length k _ (fun i T => i = ((k + 1 : Nat) : Int) ∧ T = roOf (runsUp X (k + 1)) ∧ k < 64)) ?_ (fun _ _ h => h) (fun fs m hb => n25_good hb hgo)
          have el1 : IntKind.i64.wrap (((l ++ [(a, n)]).length : Int) - 1) = (l.length : Int) := by rw [hll, wrap_in (by omega) (by omega)]; omega
          have ep : 0 + Int.toNat ((l.length : Nat) : Int) * 2 + 1 = l.length * 2 + 1 := by rw [Int.toNat_natCast]; omega
          have en : IntKind.i64.wrap (((n : Nat) : Int) + 1) = ((n + 1 : Nat) : Int) := wrap_in (by omega) (by omega)
          have hs : l.length * 2 + 1 < (cellsOf (l ++ [(a, n)])).toArray.size := by rw [List.size_toArray, cellsOf_len, hll]; omega
          have hQ : (some ((l ++ [(a, n)]).length, (cellsOf (l ++ [(a, n + 1)])).toArray) : Ro) = roOf (runsUp X (k + 1)) := by rw [hup, roOf_eq (by simp)]; simp
          have hd0 : decide ((k : Int) > 0) = true := decide_eq_true (by omega)
          simp only [ari_add, ari_sub, e1, e2, e3, em h1.1, b2, b4, hd, hd0, el1, ep, c2, c3, en, Bool.not_true, beq_self_eq_true, true_implies, Bool.false_eq_true, Bool.true_eq_false, false_implies, and_true, true_and]
          repeat' first | exact trivial | exact b1 | exact b3 | exact c1 | exact hs | exact hQ | exact hlt | apply And.intro | intro _ | exact rfl | omega
        · have hup := runsUp_new hX h1
          have hd1 : ∀ b', decide ((k : Int) > 0) = b' → (b' = true → X.getLsbD (k - 1) = false) := by
            intro b' hb' e
            subst e
            have : (k : Int) > 0 := by simpa using hb'
            cases hc : X.getLsbD (k - 1) with
            | false => rfl
            | true => exact (h1 ⟨by omega, hc⟩).elim
          have b3 : IsBool (arrW X) (k - 1) ∧ boolAt (arrW X) (k - 1) = X.getLsbD (k - 1) := arrF_bool (fun i => X.getLsbD i) (by omega)
          cases hl : runsUp X k with
          | nil =>
            refine past_T ER1_ok 1000 (rr_noneT (arrW X) k _ (fun i T => i = ((k + 1 : Nat) : Int) ∧ T = roOf (runsUp X (k + 1)) ∧ k < 64)) ?_ (fun _ _ h => h) (fun fs m hb => n25_good hb hgo)
            have hQ : (some (1, #[Value.int .i64 (k : Int), Value.int .i64 1]) : Ro) = roOf (runsUp X (k + 1)) := by rw [hup, hl]; rfl
            by_cases hk0 : 0 < k
            · have hd0 : decide ((k : Int) > 0) = true := decide_eq_true (by omega)
              have b4 := hd1 _ hd0 rfl
              simp only [ari_add, ari_sub, e1, e2, e3, em hk0, b2, b3.2, b4, hd, hd0, Bool.not_true, beq_self_eq_true, true_implies, Bool.false_eq_true, Bool.true_eq_false, false_implies, and_true, true_and]
              repeat' first | exact trivial | exact b1 | exact b3.1 | exact hQ | exact hlt | apply And.intro | intro _ | exact rfl | omega
            · have hd0 : decide ((k : Int) > 0) = false := decide_eq_false (by omega)
              simp only [ari_add, ari_sub, e1, e2, b2, hd, hd0, Bool.not_true, show (false == true) = false from rfl, true_implies, Bool.false_eq_true, false_implies, and_true, true_and]
              repeat' first | exact trivial | exact b1 | exact hQ | exact hlt | apply And.intro | intro _ | exact rfl | omega
          | cons r l =>
            refine past_T ER1_ok 1000 (rr_someT (arrW X) (cellsOf (r :: l)).toArray (r :: l).length k _ (fun i T => i = ((k + 1 : Nat) : Int) ∧ T = roOf (runsUp X (k + 1)) ∧ k < 64)) ?_ (fun _ _ h => h) (fun fs m hb => n25_good hb hgo)
            rw [hl] at hlen
            have hs : (r :: l).length * 2 = (cellsOf (r :: l)).toArray.size := by rw [List.size_toArray, cellsOf_len]
            have hQ : (some ((r :: l).length + 1, (cellsOf (r :: l)).toArray ++ #[Value.int .i64 (k : Int), Value.int .i64 1]) : Ro) = roOf (runsUp X (k + 1)) := by
              have := cells_push (r :: l) k 1
              rw [hup, hl, roOf_eq (by simp), ← this]
              simp
            by_cases hk0 : 0 < k
            · have hd0 : decide ((k : Int) > 0) = true := decide_eq_true (by omega)
              have b4 := hd1 _ hd0 rfl
              simp only [ari_add, ari_sub, e1, e2, e3, em hk0, b2, b3.2, b4, hd, hd0, Bool.not_true, beq_self_eq_true, true_implies, Bool.false_eq_true, Bool.true_eq_false, false_implies, and_true, true_and]
              repeat' first | exact trivial | exact b1 | exact b3.1 | exact hs | exact hQ | exact hlt | apply And.intro | intro _ | exact rfl | omega
            · have hd0 : decide ((k : Int) > 0) = false := decide_eq_false (by omega)
              simp only [ari_add, ari_sub, e1, e2, b2, hd, hd0, Bool.not_true, show (false == true) = false from rfl, true_implies, Bool.false_eq_true, false_implies, and_true, true_and]
              repeat' first | exact trivial | exact b1 | exact hs | exact hQ | exact hlt | apply And.intro | intro _ | exact rfl | omega
theorem runsOf_ne (h0 : X ≠ 0#64) : runsOf X ≠ [] := by
  unfold runsOf
  rw [runsL_succ 64, if_neg h0]
  exact List.cons_ne_nil _ _
/-- The document's runs of a set that has pages. -/
theorem rr_con (h0 : X ≠ 0#64) (m : SMem) : Con E0 25 [agg (arrW X)] m (needs [] (.ret (sliceA m.next (runsN X)) (m.new (.pop (runsC X)) 58))) := by
  refine Con.fresh E0_ok (by kernel_rfl : E0.fn 25 = some Tryd.f25) (by kernel_rfl : Tryd.f25.body = some (Tryd.f25.body.getD .skip)) (by kernel_rfl) rfl fun _ => ?_
  show Good ER1.P _ 0 (rrC (arrW X)) _
  refine Good.retX ((?_ : Good ER1.P (rrA (roOf (runsOf X))) 0 (rrC (arrW X)) ⟨0, .nil, []⟩).mono fun s m h => ?_)
  · refine run_vc ER1_ok 1000 (rr_start (arrW X) (fun i T => i = ((0 : Nat) : Int) ∧ T = roOf (runsUp X 0))) ?_ (fun _ _ h => h.elim) (fun fs m hb => n25_good hb fun i T ⟨e1, e2⟩ => by rw [e1, e2]; exact rr_good X 65 0 (by omega) (by omega))
    refine ⟨⟨rfl, rfl⟩, ?_⟩
    repeat' first | exact trivial | apply And.intro | exact rfl
  · rw [roOf_eq (runsOf_ne X h0)] at h
    unfold rrA at h
    split at h
    · rename_i e; cases e; exact ⟨_, h⟩
    · rename_i e; cases e
    · exact h.elim
/-- The document's runs of a set that has none. -/
theorem rr_con0 (m : SMem) : Con E0 25 [agg (arrW 0#64)] m (needs [] (.ret (.s (.c (.f (.lit (.slice none 0 0))))) m)) := by
  refine Con.pure E0_ok (by kernel_rfl : E0.fn 25 = some Tryd.f25) (by kernel_rfl : Tryd.f25.body = some (Tryd.f25.body.getD .skip)) (by kernel_rfl) (by kernel_rfl) fun _ => ?_
  refine (Good.ret (m := ⟨0, .nil, []⟩) (s0m := ⟨0, .nil, []⟩) (s0 := .s (.c (.f (.lit (.slice none 0 0))))) [] ?_).mono fun _ _ h => h.1
  show Good ER1.P _ 0 (rrC (arrW 0#64)) _
  have hz : runsOf 0#64 = [] := rfl
  refine Good.mono (?_ : Good ER1.P (rrA (roOf (runsOf 0#64))) 0 (rrC (arrW 0#64)) ⟨0, .nil, []⟩) fun s m h => ?_
  · refine run_vc ER1_ok 1000 (rr_start (arrW 0#64) (fun i T => i = ((0 : Nat) : Int) ∧ T = roOf (runsUp 0#64 0))) ?_ (fun _ _ h => h.elim) (fun fs m hb => n25_good hb fun i T ⟨e1, e2⟩ => by rw [e1, e2]; exact rr_good 0#64 65 0 (by omega) (by omega))
    refine ⟨⟨rfl, rfl⟩, ?_⟩
    repeat' first | exact trivial | apply And.intro | exact rfl
  · rw [hz] at h
    unfold rrA roOf at h
    split at h
    · rename_i e; cases e
    · exact h
    · rename_i hn; exact h.elim
end
end Go.Proofs.YtebjigahnpjjiaaDoor
/- Of runs: what the laws ask of the document's functions: the environment; Find and the comparison: their loops' states. No condition. -/
namespace Go.Proofs.YtebjigahnpjjiaaDoor
noncomputable section
theorem arrW_inj {X Y : BitVec 64} (h : arrW X = arrW Y) : X = Y := by
  apply BitVec.eq_of_getLsbD_eq
  intro i hi
  have h1 := (arrF_bool (fun i => X.getLsbD i) hi).2
  have h2 := (arrF_bool (fun i => Y.getLsbD i) hi).2
  exact h1.symm.trans ((congrArg (fun c => boolAt c i) h).trans h2)
open Classical in
/-- A row of truths, as a word. -/
def wordOf (cs : Array Value) : BitVec 64 := if h : ∃ X, arrW X = cs then Classical.choose h else 0#64
def isRow (cs : Array Value) : Prop := arrW (wordOf cs) = cs
theorem wordOf_arr (X : BitVec 64) : wordOf (arrW X) = X := by
  have h : ∃ Y, arrW Y = arrW X := ⟨X, rfl⟩
  unfold wordOf
  rw [dif_pos h]
  exact arrW_inj (Classical.choose_spec h)
theorem isRow_arr (X : BitVec 64) : isRow (arrW X) := by unfold isRow; rw [wordOf_arr]
def conL2 (g : FuncId) (l : List SV) (m : SMem) : Option Tree :=
  match g, l with
  | 7, [.s (.c (.f (.int .i64 p)))] => some (.ret (agg (arrW (lowW (clampN p.den)))) m)
  | 8, [.s (.agg (.op cs)), .s (.c (.f (.int .i64 a))), .s (.c (.f (.int .i64 n))), .s (.c (.f (.bool b)))] => some (.need [isRow cs] (.ret (sB (.o (isR (wordOf cs) a.den n.den b.den))) m))
  | 11, [.s (.agg (.op cs)), .s (.c (.f (.int .i64 a))), .s (.c (.f (.int .i64 n))), .s (.c (.f (.bool b)))] => some (.need [isRow cs, mayB a.den n.den = true] (.ret (agg (arrW (withW (wordOf cs) a.den n.den b.den))) m))
  | 25, [.s (.agg (.op cs))] => some (.need [isRow cs] (.br (decide (wordOf cs = 0#64)) (.ret (.s (.c (.f (.lit (.slice none 0 0))))) m) (.ret (sliceA m.next (runsN (wordOf cs))) (m.new (.pop (runsC (wordOf cs))) 58))))
  | g, l => conL g l m
theorem den_b {x : SB} {R : Ren} {v : Value} (h : (SV.s (.c (.f (.bool x)))).ok R v) : (SV.s (.c (.f (.bool (.o x.den))))).ok R v := h
theorem den4 {a b b' c c' d d' : SV} (k : ∀ R v, b.ok R v → b'.ok R v) (j : ∀ R v, c.ok R v → c'.ok R v) (i : ∀ R v, d.ok R v → d'.ok R v) (R : Ren) (vs : List Value) (hv : All2 (SV.ok R) [a, b, c, d] vs) : All2 (SV.ok R) [a, b', c', d'] vs := by
  match vs, hv with
  | [x, v, w, u], hv => exact ⟨hv.1, k R v hv.2.1, j R w hv.2.2.1, i R u hv.2.2.2.1, trivial⟩
theorem conL2_ok : ∀ g l m t, conL2 g l m = some t → Con E0 g l m t := by
  intro g l m t h
  unfold conL2 at h
  split at h
  · rename_i p
    cases h
    exact Con.args (den1 fun _ _ => den_i) (of7_con p.den m)
  · rename_i cs a n b
    cases h
    refine Con.asked fun hq => Con.args (den4 (fun _ _ => den_i) (fun _ _ => den_i) fun _ _ => den_b) ?_
    have hc : isRow cs := hq _ (List.mem_cons_self ..)
    have := is_con (wordOf cs) a.den n.den b.den m
    rw [show arrW (wordOf cs) = cs from hc] at this
    exact this
  · rename_i cs a n b
    cases h
    refine Con.asked fun hq => Con.args (den4 (fun _ _ => den_i) (fun _ _ => den_i) fun _ _ => den_b) ?_
    have hc : isRow cs := hq _ (List.mem_cons_self ..)
    have hm : mayB a.den n.den = true := hq _ (List.mem_cons_of_mem _ (List.mem_cons_self ..))
    intro A hs
    have := with_con (wordOf cs) a.den n.den b.den m
    rw [show arrW (wordOf cs) = cs from hc] at this
    exact this A ⟨fun p hp => by
      rw [List.mem_singleton] at hp
      rw [hp]; exact hm, hs⟩
  · rename_i cs
    cases h
    refine Con.asked fun hq => ?_
    have hc : isRow cs := hq _ (List.mem_cons_self ..)
    refine Con.two (fun hb => ?_) fun hb => ?_
    · have h0 : wordOf cs = 0#64 := by simpa using hb
      have := rr_con0 m
      rw [← h0, show arrW (wordOf cs) = cs from hc] at this
      exact this
    · have h0 : wordOf cs ≠ 0#64 := by simpa using hb
      have := rr_con (wordOf cs) h0 m
      rw [show arrW (wordOf cs) = cs from hc] at this
      exact this
  · exact conL_ok _ _ _ _ h
def ER2 : Env := ⟨Tryd.prog, fnOf, conL2, fun d f x => Nat.beq d 0 && (Nat.beq f 13 || Nat.beq f 14) && isLoop x⟩
theorem ER2_ok : EnvOk ER2 := EnvOk.with E0_ok _ _ conL2_ok
def fiC (cs : Array Value) (n : Int) : List SFr := [callFr 13 Tryd.f13.ntmps [agg cs, i64 (.o n)] (Tryd.f13.body.getD .skip)]
def n13 (h : Bool) (cs : Array Value) (n : Int) (Q : Int → Prop) (fs : List SFr) (m : SMem) : Prop := match fs with
  | [f] => match rdI f 5 with
    | some i => Q i ∧ (cond h nxH nxF) ER2 (fiC cs n) [(5, i64 (.o i))] [] fs m
    | _ => False
  | _ => False
def intA (x : Int) : SV → SMem → Prop := retOk 0 [] (i64 (.o x)) ⟨0, .nil, []⟩
def T13 : List SIt := headTd (stF ER2 (fiC #[] 0) [])
def H13 : List SIt := headTd (stH ER2 (fiC #[] 0) [])
/-! Of the comparison: its two loops. -/
def saC (x : Int) (cs : Array Value) : List SFr := [callFr 14 Tryd.f14.ntmps [setIs x, agg cs] (Tryd.f14.body.getD .skip)]
def saM (x : Int) (cs : Array Value) (S : Rw) : SMem :=
  ⟨4, match S with
    | none => ((Tr.nil : Tr SBlk).set 0 (some (one1 x))).set 1 (some ⟨.op cs, 29, true⟩)
    | some (p, q) => (((((Tr.nil : Tr SBlk).set 0 (some (one1 x))).set 1 (some ⟨.op cs, 29, true⟩)).set 2 (some ⟨.pop p.2, 50, true⟩)).set 3 (some ⟨.pop q.2, 58, true⟩)), []⟩
def saF1 (td : List SIt) (S : Rw) (i : Int) : SFr :=
  ⟨14, tmOf Tryd.f14.ntmps [(2, ptr 0 (.l 0)), (3, ptr 1 (.l 0)), (5, .s (.c (.f (rwA S)))), (6, .s (.c (.f (rwB S)))), (7, i64 (.o i))], td, [], .run, .normal, none⟩
def saF2 (td : List SIt) (n w i : Int) : SFr :=
  ⟨14, tmOf Tryd.f14.ntmps [(2, ptr 0 (.l 0)), (3, ptr 1 (.l 0)), (8, i64 (.o n)), (9, u64S w), (10, i64 (.o i))], td, [], .run, .normal, none⟩
def saR (x : Int) (cs : Array Value) : Tree := run ER2 1000 0 (saC x cs) ⟨0, .nil, []⟩
def rdS2 (f : SFr) (d : Nat) (m : SMem) : Option (List Nat × Tk) := match f.tm.get d with
  | some (.s (.c (.f (.lit (.slice none 0 0))))) => some ([], none)
  | some (.s (.c (.f (.slice sid _ k _)))) => match rdA m sid with
    | some ts => some ([sid], some (k.den, ts))
    | none => none
  | _ => none
def sa1 (td : List SIt) (x : Int) (cs : Array Value) (S : Rw) (i : Int) : Tree := stepT ER2.go (run ER2 1000) 0 [saF1 td S i] (saM x cs S)
def sa2 (td : List SIt) (x : Int) (cs : Array Value) (n w i : Int) : Tree := stepT ER2.go (run ER2 1000) 0 [saF2 td n w i] (saM x cs none)
def tS1 : List SIt := (saR 0 #[]).tdOf 5
def hS1 : List SIt := headL tS1
def tS2 : List SIt := (sa1 hS1 0 #[] none 0).tdOf 12
def hS2 : List SIt := headL tS2
def n14 (t1 t2 : List SIt) (x : Int) (cs : Array Value) (Q1 : Rw → Int → Prop) (Q2 : Int → Int → Int → Prop) (fs : List SFr) (m : SMem) : Prop := match fs with
  | [f] => match f.todo with
    | y :: _ => match loopId y with
      | 5 => match rdS2 f 5 m, rdS2 f 6 m, rdI f 7 with
        | some (_, none), some (_, none), some i => Q1 none i ∧ subOk 0 [(0, 0), (1, 1)] [saF1 t1 none i] (saM x cs none) fs m
        | some (t, some S), some (u, some U), some i => Q1 (some (S, U)) i ∧ subOk 0 ([(0, 0), (1, 1)] ++ πT 2 t ++ πT 3 u) [saF1 t1 (some (S, U)) i] (saM x cs (some (S, U))) fs m
        | _, _, _ => False
      | 12 => match rdI f 8, rdI f 9, rdI f 10 with
        | some n, some w, some i => Q2 n w i ∧ subOk 0 [(0, 0), (1, 1)] [saF2 t2 n w i] (saM x cs none) fs m
        | _, _, _ => False
      | _ => False
    | [] => False
  | _ => False
end
end Go.Proofs.YtebjigahnpjjiaaDoor
/- Of runs: the rounds of Find and of the comparison, as propositions. No condition. -/
namespace Go.Proofs.YtebjigahnpjjiaaDoor
set_option maxRecDepth 100000
theorem fi_start (cs : Array Value) (n r : Int) (Q : Int → Prop) : (stR ER2 (fiC cs n)).vc (intA r) (n13 false cs n Q) =
    (Q (0 : Int) ∧ CallKind.normal = CallKind.normal ∧ TodoOk (ren 0 [(0, 0)]) T13 T13 ∧ cs = cs ∧ n = n ∧ (0 : Int) = (0 : Int) ∧ (29 : Nat) = (29 : Nat) ∧ cs = cs ∧ True) := by kernel_rfl
theorem fi_step (cs : Array Value) (n r i : Int) (Q : Int → Prop) : (stS ER2 (fiC cs n) [(5, i64 (.o i))] []).vc (intA r) (n13 true cs n Q) =
    ((decide (i < (64 : Int)) = true → (Array.size cs = (64 : Nat) ∧ True) ∧ (arrW (wordOf cs) = cs ∧ True) ∧ (isR (wordOf cs) i n true = true → r = i ∧ True) ∧ (isR (wordOf cs) i n true = false → Q (ari BinOp.add IntKind.i64 i (1 : Int)) ∧ CallKind.normal = CallKind.normal ∧ TodoOk (ren 0 [(0, 0)]) H13 H13 ∧ cs = cs ∧ n = n ∧ ari BinOp.add IntKind.i64 i (1 : Int) = ari BinOp.add IntKind.i64 i (1 : Int) ∧ (29 : Nat) = (29 : Nat) ∧ cs = cs ∧ True)) ∧ (decide (i < (64 : Int)) = false → r = (-1 : Int) ∧ True)) := by kernel_rfl
theorem sa_start (x : Int) (cs : Array Value) (r : Bool) (Q1 : Rw → Int → Prop) (Q2 : Int → Int → Int → Prop) : (saR x cs).vc (boolA r) (n14 tS1 tS2 x cs Q1 Q2) =
    ((uw (wd x) = x ∧ True) ∧ (decide (wd x = BitVec.ofNat (64 : Nat) (0 : Nat)) = true → (Array.size cs = (64 : Nat) ∧ True) ∧ (arrW (wordOf cs) = cs ∧ True) ∧ (decide (wordOf cs = BitVec.ofNat (64 : Nat) (0 : Nat)) = true → Q1 none (0 : Int) ∧ CallKind.normal = CallKind.normal ∧ TodoOk (ren 0 [(0, 0), (1, 1)]) tS1 tS1 ∧ (0 : Int) = (0 : Int) ∧ Value.slice none (0 : Nat) (0 : Nat) = Value.slice none (0 : Nat) (0 : Nat) ∧ Value.slice none (0 : Nat) (0 : Nat) = Value.slice none (0 : Nat) (0 : Nat) ∧ SBlk.ty (one1 x) = (26 : Nat) ∧ x = x ∧ (29 : TypeId) = (29 : Nat) ∧ cs = cs ∧ True) ∧ (decide (wordOf cs = BitVec.ofNat (64 : Nat) (0 : Nat)) = false → (((0 : Int) != (↑(runsN (wordOf cs)) : Int)) = true → r = false ∧ True) ∧ (((0 : Int) != (↑(runsN (wordOf cs)) : Int)) = false → False))) ∧ (decide (wd x = BitVec.ofNat (64 : Nat) (0 : Nat)) = false → (Array.size cs = (64 : Nat) ∧ True) ∧ (arrW (wordOf cs) = cs ∧ True) ∧ (decide (wordOf cs = BitVec.ofNat (64 : Nat) (0 : Nat)) = true → (((↑(runsN (wd x)) : Int) != (0 : Int)) = true → r = false ∧ True) ∧ (((↑(runsN (wd x)) : Int) != (0 : Int)) = false → False)) ∧ (decide (wordOf cs = BitVec.ofNat (64 : Nat) (0 : Nat)) = false → (((↑(runsN (wd x)) : Int) != (↑(runsN (wordOf cs)) : Int)) = true → r = false ∧ True) ∧ (((↑(runsN (wd x)) : Int) != (↑(runsN (wordOf cs)) : Int)) = false → Q1 (some ((runsN (wd x), runsC (wd x)), runsN (wordOf cs), runsC (wordOf cs))) (0 : Int) ∧ CallKind.normal = CallKind.normal ∧ TodoOk (ren 0 [(0, 0), (1, 1), (2, 2), (3, 3)]) tS1 tS1 ∧ (0 : Int) = (0 : Int) ∧ runsN (wd x) = runsN (wd x) ∧ runsN (wordOf cs) = runsN (wordOf cs) ∧ SBlk.ty (one1 x) = (26 : Nat) ∧ x = x ∧ (29 : TypeId) = (29 : Nat) ∧ cs = cs ∧ (58 : TypeId) = (58 : TypeId) ∧ runsC (wordOf cs) = runsC (wordOf cs) ∧ (50 : TypeId) = (50 : TypeId) ∧ runsC (wd x) = runsC (wd x) ∧ True)))) := by kernel_rfl
theorem sa1_n (x : Int) (cs : Array Value) (r : Bool) (i : Int) (Q1 : Rw → Int → Prop) (Q2 : Int → Int → Int → Prop) : (sa1 hS1 x cs none i).vc (boolA r) (n14 hS1 tS2 x cs Q1 Q2) =
    ((decide (i < (0 : Int)) = true → False) ∧ (decide (i < (0 : Int)) = false → Q2 (0 : Int) (0 : Int) (0 : Int) ∧ CallKind.normal = CallKind.normal ∧ TodoOk (ren 0 [(0, 0), (1, 1)]) tS2 tS2 ∧ (0 : Int) = (0 : Int) ∧ (0 : Int) = (0 : Int) ∧ (0 : Int) = (0 : Int) ∧ SBlk.ty (one1 x) = SBlk.ty (one1 x) ∧ x = x ∧ (29 : TypeId) = (29 : TypeId) ∧ cs = cs ∧ True)) := by kernel_rfl
theorem sa1_s (x : Int) (cs : Array Value) (ka kb : Nat) (xs ys : Array Value) (r : Bool) (i : Int) (Q1 : Rw → Int → Prop) (Q2 : Int → Int → Int → Prop) : (sa1 hS1 x cs (some ((ka, xs), (kb, ys))) i).vc (boolA r) (n14 hS1 tS2 x cs Q1 Q2) =
    ((decide (i < (↑ka : Int)) = true → (((0 : Int) ≤ i ∧ i < (↑ka : Int)) ∧ True) ∧ (IsInt IntKind.i64 xs ((0 : Nat) + Int.toNat i * 2) ∧ True) ∧ (((0 : Int) ≤ i ∧ i < (↑kb : Int)) ∧ True) ∧ (IsInt IntKind.i64 ys ((0 : Nat) + Int.toNat i * 2) ∧ True) ∧ (((intAt xs ((0 : Nat) + Int.toNat i * 2) != intAt ys ((0 : Nat) + Int.toNat i * 2)) == false) = true → (((0 : Int) ≤ i ∧ i < (↑ka : Int)) ∧ True) ∧ (IsInt IntKind.i64 xs ((0 : Nat) + Int.toNat i * 2 + 1) ∧ True) ∧ (((0 : Int) ≤ i ∧ i < (↑kb : Int)) ∧ True) ∧ (IsInt IntKind.i64 ys ((0 : Nat) + Int.toNat i * 2 + 1) ∧ True) ∧ ((intAt xs ((0 : Nat) + Int.toNat i * 2 + 1) != intAt ys ((0 : Nat) + Int.toNat i * 2 + 1)) = true → r = false ∧ True) ∧ ((intAt xs ((0 : Nat) + Int.toNat i * 2 + 1) != intAt ys ((0 : Nat) + Int.toNat i * 2 + 1)) = false → Q1 (some ((ka, xs), kb, ys)) (ari BinOp.add IntKind.i64 i (1 : Int)) ∧ CallKind.normal = CallKind.normal ∧ TodoOk (ren 0 [(0, 0), (1, 1), (2, 2), (3, 3)]) hS1 hS1 ∧ ari BinOp.add IntKind.i64 i (1 : Int) = ari BinOp.add IntKind.i64 i (1 : Int) ∧ ka = ka ∧ kb = kb ∧ SBlk.ty (one1 x) = SBlk.ty (one1 x) ∧ x = x ∧ (29 : TypeId) = (29 : TypeId) ∧ cs = cs ∧ (58 : TypeId) = (58 : TypeId) ∧ ys = ys ∧ (50 : TypeId) = (50 : TypeId) ∧ xs = xs ∧ True)) ∧ (((intAt xs ((0 : Nat) + Int.toNat i * 2) != intAt ys ((0 : Nat) + Int.toNat i * 2)) == false) = false → r = false ∧ True)) ∧ (decide (i < (↑ka : Int)) = false → Q2 (0 : Int) (0 : Int) (0 : Int) ∧ CallKind.normal = CallKind.normal ∧ TodoOk (ren 0 [(0, 0), (1, 1)]) tS2 tS2 ∧ (0 : Int) = (0 : Int) ∧ (0 : Int) = (0 : Int) ∧ (0 : Int) = (0 : Int) ∧ SBlk.ty (one1 x) = SBlk.ty (one1 x) ∧ x = x ∧ (29 : TypeId) = (29 : TypeId) ∧ cs = cs ∧ True)) := by kernel_rfl
theorem sa2_s (x : Int) (cs : Array Value) (r : Bool) (n w i : Int) (Q1 : Rw → Int → Prop) (Q2 : Int → Int → Int → Prop) : (sa2 hS2 x cs n w i).vc (boolA r) (n14 hS1 hS2 x cs Q1 Q2) =
    ((decide (i < (64 : Int)) = true → (uw (wd x) = x ∧ True) ∧ (((0 : Int) ≤ i ∧ i < (64 : Int)) ∧ True) ∧ (IsBool cs ((0 : Nat) + Int.toNat i * 1) ∧ True) ∧ ((!(decide ((0 : Int) ≤ i) && BitVec.getLsbD (wd x) (Int.toNat i)) == boolAt cs ((0 : Nat) + Int.toNat i * 1)) = true → r = false ∧ True) ∧ ((!(decide ((0 : Int) ≤ i) && BitVec.getLsbD (wd x) (Int.toNat i)) == boolAt cs ((0 : Nat) + Int.toNat i * 1)) = false → (((0 : Int) ≤ i ∧ i < (64 : Int)) ∧ True) ∧ (IsBool cs ((0 : Nat) + Int.toNat i * 1) ∧ True) ∧ (boolAt cs ((0 : Nat) + Int.toNat i * 1) = true → ((0 : Int) ≤ i ∧ True) ∧ Q2 (ari BinOp.add IntKind.i64 n (1 : Int)) (ari BinOp.or IntKind.u64 w (ari BinOp.shl IntKind.u64 (1 : Int) i)) (ari BinOp.add IntKind.i64 i (1 : Int)) ∧ CallKind.normal = CallKind.normal ∧ TodoOk (ren 0 [(0, 0), (1, 1)]) hS2 hS2 ∧ ari BinOp.or IntKind.u64 w (ari BinOp.shl IntKind.u64 (1 : Int) i) = ari BinOp.or IntKind.u64 w (ari BinOp.shl IntKind.u64 (1 : Int) i) ∧ ari BinOp.add IntKind.i64 n (1 : Int) = ari BinOp.add IntKind.i64 n (1 : Int) ∧ ari BinOp.add IntKind.i64 i (1 : Int) = ari BinOp.add IntKind.i64 i (1 : Int) ∧ SBlk.ty (one1 x) = SBlk.ty (one1 x) ∧ x = x ∧ (29 : TypeId) = (29 : TypeId) ∧ cs = cs ∧ True) ∧ (boolAt cs ((0 : Nat) + Int.toNat i * 1) = false → Q2 n w (ari BinOp.add IntKind.i64 i (1 : Int)) ∧ CallKind.normal = CallKind.normal ∧ TodoOk (ren 0 [(0, 0), (1, 1)]) hS2 hS2 ∧ w = w ∧ n = n ∧ ari BinOp.add IntKind.i64 i (1 : Int) = ari BinOp.add IntKind.i64 i (1 : Int) ∧ SBlk.ty (one1 x) = SBlk.ty (one1 x) ∧ x = x ∧ (29 : TypeId) = (29 : TypeId) ∧ cs = cs ∧ True))) ∧ (decide (i < (64 : Int)) = false → (((ocI x == n) == true) = true → (((x == w) == true) = true → (uw (wd x) = x ∧ True) ∧ (true = true → (uw (wd x) = x ∧ True) ∧ r = !(decide ((0 : Int) ≤ (64 : Int)) && BitVec.getLsbD (wd x) (64 : Nat)) ∧ True) ∧ (true = false → r = false ∧ True)) ∧ (((x == w) == true) = false → r = false ∧ True)) ∧ (((ocI x == n) == true) = false → r = false ∧ True))) := by kernel_rfl
end Go.Proofs.YtebjigahnpjjiaaDoor
/- Of runs: the document's Find, and the comparison of a set with the document's: what they answer. No condition. -/
namespace Go.Proofs.YtebjigahnpjjiaaDoor
set_option maxRecDepth 100000
section
variable {A : SV → SMem → Prop}
theorem n13_good {h : Bool} {cs : Array Value} {n : Int} {Q : Int → Prop} {fs : List SFr} {m : SMem} (hb : n13 h cs n Q fs m) (hg : ∀ i, Q i → Good ER2.P A 0 (stH ER2 (fiC cs n) [(5, i64 (.o i))]) (stM ER2 (fiC cs n) [])) : Good ER2.P A 0 fs m := by
  unfold n13 at hb
  split at hb
  case h_2 => exact hb.elim
  split at hb
  case h_2 => exact hb.elim
  exact nxc_good hb.2 (hg _ hb.1)
theorem n14_good {t1 t2 : List SIt} {x : Int} {cs : Array Value} {Q1 : Rw → Int → Prop} {Q2 : Int → Int → Int → Prop} {fs : List SFr} {m : SMem} (hb : n14 t1 t2 x cs Q1 Q2 fs m)
    (h1 : ∀ S i, Q1 S i → Good ER2.P A 0 [saF1 t1 S i] (saM x cs S)) (h2 : ∀ n w i, Q2 n w i → Good ER2.P A 0 [saF2 t2 n w i] (saM x cs none)) : Good ER2.P A 0 fs m := by
  unfold n14 at hb
  split at hb
  case h_2 => exact hb.elim
  split at hb
  case h_2 => exact hb.elim
  split at hb
  · split at hb
    · exact Good.of_sub hb.2 (h1 _ _ hb.1)
    · exact Good.of_sub hb.2 (h1 _ _ hb.1)
    · exact hb.elim
  · split at hb
    · exact Good.of_sub hb.2 (h2 _ _ _ hb.1)
    · exact hb.elim
  · exact hb.elim
end
section
variable (X : BitVec 64)
theorem isR_fits (n : Int) (k : Nat) : isR X (k : Int) n true = fitsAt X n k := by
  unfold isR fitsAt mayB
  rw [Int.toNat_natCast]
  congr 1
  rw [decide_eq_decide]
  omega
def findR (n : Int) : Int := match findN X n with | some a => (a : Nat) | none => -1
theorem fi_good (n : Int) : ∀ (j k : Nat), 64 - k < j → k ≤ 64 → (∀ i, i < k → fitsAt X n i = false) → Good ER2.P (intA (findR X n)) 0 (stH ER2 (fiC (arrW X) n) [(5, i64 (.o (k : Int)))]) (stM ER2 (fiC (arrW X) n) []) := by
  intro j
  induction j with
  | zero => intro k h; omega
  | succ j ih =>
    intro k hj hk hI
    refine past_vc ER2_ok 1000 (fi_step (arrW X) n (findR X n) k (fun i => i = ((k + 1 : Nat) : Int) ∧ k < 64 ∧ fitsAt X n k = false)) ?_ (fun _ _ h => h) (fun fs m hb => n13_good hb fun i ⟨e1, e2, e3⟩ => by
      rw [e1]; exact ih (k + 1) (by omega) (by omega) fun i h => by
        by_cases e : i = k
        · rw [e]; exact e3
        · exact hI i (by omega))
    refine ⟨fun h => ?_, fun h => ?_⟩
    · have hlt : k < 64 := by
        have : (k : Int) < 64 := by simpa using h
        omega
      have e1 : IntKind.i64.wrap ((k : Int) + 1) = ((k + 1 : Nat) : Int) := wrap_in (by omega) (by omega)
      have hs : (arrW X).size = 64 := arrF_size _
      rw [wordOf_arr, isR_fits, ari_add, e1]
      refine ⟨⟨hs, trivial⟩, ⟨rfl, trivial⟩, fun h => ?_, fun h => ⟨⟨rfl, hlt, h⟩, ?_⟩⟩
      · have : findN X n = some k := seek_of (Nat.zero_le _) (by omega) h fun i _ hi => hI i hi
        exact ⟨by unfold findR; rw [this], trivial⟩
      · repeat' first | exact trivial | apply And.intro | exact rfl
    · have hge : ¬ (k : Int) < 64 := by simpa using h
      have : findN X n = none := seek_none fun i _ hi => hI i (by omega)
      exact ⟨by unfold findR; rw [this], trivial⟩
theorem fi_con (n : Int) (m : SMem) : Con E0 13 [agg (arrW X), i64 (.o n)] m (needs [] (.ret (i64 (.o (findR X n))) m)) := by
  refine Con.pure E0_ok (by kernel_rfl : E0.fn 13 = some Tryd.f13) (by kernel_rfl : Tryd.f13.body = some (Tryd.f13.body.getD .skip)) (by kernel_rfl) (by kernel_rfl) fun _ => ?_
  refine (Good.ret (m := ⟨0, .nil, []⟩) (s0m := ⟨0, .nil, []⟩) (s0 := i64 (.o (findR X n))) [] ?_).mono fun _ _ h => h.1
  show Good ER2.P _ 0 (fiC (arrW X) n) _
  refine run_vc ER2_ok 1000 (fi_start (arrW X) n (findR X n) (fun i => i = ((0 : Nat) : Int))) ?_ (fun _ _ h => h) (fun fs m hb => n13_good hb fun i e1 => by rw [e1]; exact fi_good X n 65 0 (by omega) (by omega) fun i h => by omega)
  refine ⟨rfl, ?_⟩
  repeat' first | exact trivial | apply And.intro | exact rfl
/-! The comparison. -/
def lowX (k : Nat) : BitVec 64 := X &&& lowW k
theorem lowX_next {k : Nat} (hk : k < 64) (h : X.getLsbD k = true) : lowX X k ||| (1#64 <<< k) = lowX X (k + 1) := by
  apply BitVec.eq_of_getLsbD_eq
  intro i hi
  unfold lowX
  rw [BitVec.getLsbD_or, BitVec.getLsbD_and, BitVec.getLsbD_and, lowW_bit _ _ (by omega), lowW_bit _ _ (by omega), BitVec.getLsbD_shiftLeft, BitVec.getLsbD_one, decide_eq_true hi]
  by_cases e : i = k
  · subst e
    rw [h, decide_eq_true (show i < i + 1 by omega)]
    simp
  · have e1 : decide (i < k) = decide (i < k + 1) := by rw [decide_eq_decide]; omega
    rw [e1]
    by_cases e2 : i < k
    · rw [decide_eq_true (show i < k + 1 by omega)]; simp
    · have : decide (i - k = 0) = false := decide_eq_false (by omega)
      rw [this]; simp
theorem lowX_same {k : Nat} (hk : k < 64) (h : X.getLsbD k = false) : lowX X k = lowX X (k + 1) := by
  apply BitVec.eq_of_getLsbD_eq
  intro i hi
  unfold lowX
  rw [BitVec.getLsbD_and, BitVec.getLsbD_and, lowW_bit _ _ (by omega), lowW_bit _ _ (by omega)]
  by_cases e : i = k
  · subst e; rw [h]; rfl
  · have e1 : decide (i < k) = decide (i < k + 1) := by rw [decide_eq_decide]; omega
    rw [e1]
theorem lowX_all : lowX X 64 = X := by
  apply BitVec.eq_of_getLsbD_eq
  intro i hi
  unfold lowX
  rw [BitVec.getLsbD_and, lowW_bit _ _ (by omega), decide_eq_true hi, Bool.and_true]
theorem lowX_zero : lowX X 0 = 0#64 := by
  apply BitVec.eq_of_getLsbD_eq
  intro i hi
  unfold lowX
  rw [BitVec.getLsbD_and, lowW_bit _ _ (by omega), decide_eq_false (by omega)]
  simp
theorem pc_le (k : Nat) : pc X k ≤ k := by
  induction k with
  | zero => exact Nat.le_refl _
  | succ k ih =>
    show pc X k + _ ≤ _
    have := Bool.toNat_le (X.getLsbD k)
    omega
theorem sa2_good : ∀ (j k : Nat), 64 - k < j → k ≤ 64 → Good ER2.P (boolA true) 0 [saF2 hS2 (pc X k : Nat) (uw (lowX X k)) (k : Nat)] (saM (uw X) (arrW X) none) := by
  intro j
  induction j with
  | zero => intro k h; omega
  | succ j ih =>
    intro k hj hk
    refine past_vc ER2_ok 1000 (sa2_s (uw X) (arrW X) true (pc X k : Nat) (uw (lowX X k)) (k : Nat) (fun _ _ => False) (fun n w i => n = (pc X (k + 1) : Nat) ∧ w = uw (lowX X (k + 1)) ∧ i = ((k + 1 : Nat) : Int) ∧ k < 64)) ?_ (fun _ _ h => h)
      (fun fs m hb => n14_good hb (fun _ _ h => h.elim) fun n w i ⟨e1, e2, e3, e4⟩ => by rw [e1, e2, e3]; exact ih (k + 1) (by omega) (by omega))
    refine ⟨fun h => ?_, fun h => ?_⟩
    · have hlt : k < 64 := by
        have : (k : Int) < 64 := by simpa using h
        omega
      have hpc := pc_le X k
      have e1 : IntKind.i64.wrap ((k : Int) + 1) = ((k + 1 : Nat) : Int) := wrap_in (by omega) (by omega)
      have e2 : 0 + k * 1 = k := by omega
      have e3 : IntKind.i64.wrap ((pc X k : Nat) + 1) = ((pc X k + 1 : Nat) : Int) := wrap_in (by omega) (by omega)
      have e4 : (1 : Int) = uw 1#64 := rfl
      have e5 : decide ((0 : Int) ≤ (k : Int)) = true := decide_eq_true (by omega)
      have e6 : ari .or .u64 (uw (lowX X k)) (ari .shl .u64 1 (k : Int)) = uw (lowX X k ||| (1#64 <<< k)) := by
        rw [e4, ari_uw_shl, ari_uw_or, Int.toNat_natCast]
      obtain ⟨b1, b2⟩ : IsBool (arrW X) k ∧ boolAt (arrW X) k = X.getLsbD k := arrF_bool (fun i => X.getLsbD i) hlt
      rw [e6]
      simp only [wd_uw, Int.toNat_natCast, e2, b2, e5, Bool.true_and, ari_add, e1, e3]
      cases hX : X.getLsbD k with
      | true =>
        have hQ : ((pc X k + 1 : Nat) : Int) = (pc X (k + 1) : Nat) ∧ uw (lowX X k ||| (1#64 <<< k)) = uw (lowX X (k + 1)) ∧ ((k + 1 : Nat) : Int) = ((k + 1 : Nat) : Int) ∧ k < 64 :=
          ⟨by show _ = ((pc X k + (X.getLsbD k).toNat : Nat) : Int); rw [hX]; rfl, by rw [lowX_next X hlt hX], rfl, hlt⟩
        simp only [beq_self_eq_true, Bool.not_true, Bool.false_eq_true, false_implies, true_implies, Bool.true_eq_false, true_and, and_true]
        repeat' first | exact trivial | exact b1 | exact hQ | exact hQ.1 | exact hQ.2.1 | exact hlt | apply And.intro | intro _ | exact rfl | omega
      | false =>
        have hQ : ((pc X k : Nat) : Int) = (pc X (k + 1) : Nat) ∧ uw (lowX X k) = uw (lowX X (k + 1)) ∧ ((k + 1 : Nat) : Int) = ((k + 1 : Nat) : Int) ∧ k < 64 :=
          ⟨by show _ = ((pc X k + (X.getLsbD k).toNat : Nat) : Int); rw [hX]; rfl, by rw [lowX_same X hlt hX], rfl, hlt⟩
        simp only [beq_self_eq_true, Bool.not_true, Bool.false_eq_true, false_implies, true_implies, true_and, and_true]
        repeat' first | exact trivial | exact b1 | exact hQ | exact hQ.1 | exact hQ.2.1 | exact hlt | apply And.intro | intro _ | exact rfl | omega
    · have hge : ¬ (k : Int) < 64 := by simpa using h
      have : k = 64 := by omega
      subst this
      have hb : X.getLsbD 64 = false := BitVec.getLsbD_of_ge _ _ (by omega)
      simp only [wd_uw, ocI_uw, lowX_all, pc_cnt, beq_self_eq_true, true_implies, Bool.true_eq_false, false_implies, and_true, hb, Bool.and_false, Bool.not_false]
theorem sa1_good (l : List (Nat × Nat)) (hl : l.length ≤ 100) (hg : Good ER2.P (boolA true) 0 [saF2 tS2 0 0 0] (saM (uw X) (arrW X) none)) : ∀ (j : Nat) (k : Nat), k ≤ l.length → l.length - k < j →
    Good ER2.P (boolA true) 0 [saF1 hS1 (some ((l.length, (cellsOf l).toArray), (l.length, (cellsOf l).toArray))) (k : Nat)] (saM (uw X) (arrW X) (some ((l.length, (cellsOf l).toArray), (l.length, (cellsOf l).toArray)))) := by
  intro j
  induction j with
  | zero => intro k _ h; omega
  | succ j ih =>
    intro k hk hj
    refine past_vc ER2_ok 1000 (sa1_s (uw X) (arrW X) l.length l.length (cellsOf l).toArray (cellsOf l).toArray true (k : Nat) (fun S i => S = some ((l.length, (cellsOf l).toArray), (l.length, (cellsOf l).toArray)) ∧ i = ((k + 1 : Nat) : Int) ∧ k < l.length) (fun n w i => n = 0 ∧ w = 0 ∧ i = 0)) ?_ (fun _ _ h => h)
      (fun fs m hb => n14_good hb (fun S i ⟨e1, e2, e3⟩ => by rw [e1, e2]; exact ih (k + 1) (by omega) (by omega)) fun n w i ⟨e1, e2, e3⟩ => by rw [e1, e2, e3]; exact hg)
    refine ⟨fun h => ?_, fun h => ⟨⟨rfl, rfl, rfl⟩, ?_⟩⟩
    · have hlt : k < l.length := by
        have : (k : Int) < (l.length : Int) := by simpa using h
        omega
      obtain ⟨c1, c2⟩ := cells_int l k hlt
      have e1 : IntKind.i64.wrap ((k : Int) + 1) = ((k + 1 : Nat) : Int) := wrap_in (by omega) (by omega)
      simp only [Int.toNat_natCast, ari_add, e1, bne_self, ff, true_implies, Bool.false_eq_true, Bool.true_eq_false, false_implies, and_true, true_and]
      repeat' first | exact trivial | exact c1 | exact c2 | exact hlt | apply And.intro | intro _ | exact rfl | omega
    · repeat' first | exact trivial | apply And.intro | exact rfl
theorem Con.known {E : Env} {g : FuncId} {l : List SV} {m : SMem} (h : Con E g l m (.ret (sB (.o true)) m)) : Con E g l m (.ret (sB (.l true)) m) := by
  intro A hs
  obtain ⟨fn, h1, h2, h3⟩ := h (fun s m' => s = sB (.o true) ∧ m' = m) ⟨rfl, rfl⟩
  refine ⟨fn, h1, h2, fun n0 F w0 w R args hl hR => (h3 n0 F w0 w R args hl hR).mono ?_⟩
  rintro v w' ⟨s, m', R', ⟨rfl, rfl⟩, k1, k2, k3⟩
  exact ⟨sB (.l true), m', R', hs, k1, k2, k3⟩
theorem sa_con (m : SMem) : Con E0 14 [setIs (uw X), agg (arrW X)] m (.ret (sB (.l true)) m) := by
  refine Con.known (?_ : Con E0 14 _ m (needs [] (.ret (sB (.o true)) m)))
  have hs2 : Good ER2.P (boolA true) 0 [saF2 tS2 0 0 0] (saM (uw X) (arrW X) none) := by
    refine Good.head ?_
    have := sa2_good X 65 0 (by omega) (by omega)
    rw [lowX_zero] at this
    exact this
  have key : Good ER2.P (boolA true) 0 (saC (uw X) (arrW X)) ⟨0, .nil, []⟩ := by
    refine run_vc ER2_ok 1000 (sa_start (uw X) (arrW X) true (fun S i => S = (if X = 0#64 then none else some ((runsN X, runsC X), (runsN X, runsC X))) ∧ i = 0) (fun _ _ _ => False)) ?_ (fun _ _ h => h)
      (fun fs m hb => n14_good hb (fun S i ⟨e1, e2⟩ => ?_) fun _ _ _ h => h.elim)
    · have hsz : (arrW X).size = 64 := arrF_size _
      rw [wordOf_arr]
      simp only [wd_uw, bne_self]
      by_cases h0 : X = 0#64
      · have e : decide (X = 0#64) = true := decide_eq_true h0
        rw [e, if_pos h0]
        refine ⟨⟨trivial, trivial⟩, fun _ => ⟨⟨hsz, trivial⟩, ⟨trivial, trivial⟩, fun _ => ⟨⟨rfl, trivial⟩, ?_⟩, fun h => by cases h⟩, fun h => by cases h⟩
        repeat' first | exact trivial | apply And.intro | exact rfl
      · have e : decide (X = 0#64) = false := decide_eq_false h0
        rw [e, if_neg h0]
        refine ⟨⟨trivial, trivial⟩, fun h => (by cases h), fun _ => ⟨⟨hsz, trivial⟩, ⟨trivial, trivial⟩, fun h => (by cases h), fun _ => ⟨fun h => (by cases h), fun _ => ⟨⟨rfl, trivial⟩, ?_⟩⟩⟩⟩
        repeat' first | exact trivial | apply And.intro | exact rfl
    · rw [e1, e2]
      refine Good.head ?_
      show Good ER2.P _ 0 [saF1 hS1 _ 0] _
      by_cases h0 : X = 0#64
      · rw [if_pos h0]
        refine past_vc ER2_ok 1000 (sa1_n (uw X) (arrW X) true 0 (fun _ _ => False) (fun n w i => n = 0 ∧ w = 0 ∧ i = 0)) ?_ (fun _ _ h => h) (fun fs m hb => n14_good hb (fun _ _ h => h.elim) fun n w i ⟨e1, e2, e3⟩ => by rw [e1, e2, e3]; exact hs2)
        refine ⟨fun h => (by simp at h), fun _ => ⟨⟨rfl, rfl, rfl⟩, ?_⟩⟩
        repeat' first | exact trivial | apply And.intro | exact rfl
      · rw [if_neg h0]
        have := runsL_len 65 X
        exact sa1_good X (runsOf X) (by unfold runsOf; omega) hs2 ((runsOf X).length + 1) 0 (by omega) (by omega)
  refine Con.pure E0_ok (by kernel_rfl : E0.fn 14 = some Tryd.f14) (by kernel_rfl : Tryd.f14.body = some (Tryd.f14.body.getD .skip)) (by kernel_rfl) (by kernel_rfl) fun _ => ?_
  exact (Good.ret (m := ⟨0, .nil, []⟩) (s0m := ⟨0, .nil, []⟩) (s0 := sB (.o true)) [] key).mono fun _ _ h => h.1
end
end Go.Proofs.YtebjigahnpjjiaaDoor
/- Of runs: RunsPlay: its loop's states. No condition. -/
namespace Go.Proofs.YtebjigahnpjjiaaDoor
noncomputable section
def conL3 (g : FuncId) (l : List SV) (m : SMem) : Option Tree :=
  match g, l with
  | 13, [.s (.agg (.op cs)), .s (.c (.f (.int .i64 n)))] => some (.need [isRow cs] (.ret (i64 (.o (findR (wordOf cs) n.den))) m))
  | 14, [.s (.agg (.ls [.f (.int .u64 x)])), .s (.agg (.op cs))] => some (.need [isWd x.den, arrW (wd x.den) = cs] (.ret (sB (.l true)) m))
  | g, l => conL2 g l m
theorem den2' {a b b' : SV} (k : ∀ R v, b.ok R v → b'.ok R v) (R : Ren) (vs : List Value) (hv : All2 (SV.ok R) [a, b] vs) : All2 (SV.ok R) [a, b'] vs := by
  match vs, hv with
  | [v, w], hv => exact ⟨hv.1, k R w hv.2.1, trivial⟩
theorem den2a {a a' b : SV} (h : ∀ R v, a.ok R v → a'.ok R v) (R : Ren) (vs : List Value) (hv : All2 (SV.ok R) [a, b] vs) : All2 (SV.ok R) [a', b] vs := by
  match vs, hv with
  | [v, w], hv => exact ⟨h R v hv.1, hv.2.1, trivial⟩
theorem conL3_ok : ∀ g l m t, conL3 g l m = some t → Con E0 g l m t := by
  intro g l m t h
  unfold conL3 at h
  split at h
  · rename_i cs n
    cases h
    refine Con.asked fun hq => Con.args (den2' fun _ _ => den_i) ?_
    have hc : isRow cs := hq _ (List.mem_cons_self ..)
    have := fi_con (wordOf cs) n.den m
    rw [show arrW (wordOf cs) = cs from hc] at this
    exact this
  · rename_i x cs
    cases h
    refine Con.asked fun hq => Con.args (den2a fun _ _ => den_a) ?_
    have hx : isWd x.den := hq _ (List.mem_cons_self ..)
    have hc : arrW (wd x.den) = cs := hq _ (List.mem_cons_of_mem _ (List.mem_cons_self ..))
    have := sa_con (wd x.den) m
    rw [hc, setIs_one, show uw (wd x.den) = x.den from hx] at this
    exact this
  · exact conL2_ok _ _ _ _ h
def ER3 : Env := ⟨Tryd.prog, fnOf, conL3, fun d f x => Nat.beq d 0 && Nat.beq f 3 && isLoop x⟩
theorem ER3_ok : EnvOk ER3 := EnvOk.with E0_ok _ _ conL3_ok
def actsS (off n : Nat) : SV := .s (.c (.f (.slice 0 (.o off) (.o n) .any)))
def oneM (ds : Array Value) (ty : TypeId) : SMem := ⟨1, (Tr.nil : Tr SBlk).set 0 (some ⟨.raw ds, ty, false⟩), []⟩
def rpC (pages : Int) (off n : Nat) (ask : Int) : List SFr := [callFr 3 Tryd.f3.ntmps [i64 (.o pages), actsS off n, i64 (.o ask)] (Tryd.f3.body.getD .skip)]
def rpNil (pages ask : Int) : List SFr := [callFr 3 Tryd.f3.ntmps [i64 (.o pages), nilV, i64 (.o ask)] (Tryd.f3.body.getD .skip)]
def rpF (td : List SIt) (off n : Nat) (ask i : Int) : SFr :=
  ⟨3, tmOf Tryd.f3.ntmps [(1, actsS off n), (2, i64 (.o ask)), (7, ptr 1 (.l 0)), (8, ptr 2 (.l 0)), (9, ptr 3 (.l 0)), (10, ptr 4 (.l 0)), (11, i64 (.o i))], td, [], .run, .normal, none⟩
def rpM (ds : Array Value) (ty : TypeId) (x : Int) (cs : Array Value) (h : Int) (hs : Array Value) : SMem :=
  ⟨5, (((((oneM ds ty).bl.set 1 (some (one1 x))).set 2 (some ⟨.op cs, 29, true⟩)).set 3 (some (one1 h))).set 4 (some ⟨.op hs, 29, true⟩)), []⟩
def rpN (td : List SIt) (off n : Nat) (ds : Array Value) (ty : TypeId) (ask : Int) (Q : Int → Array Value → Int → Array Value → Int → Prop) (fs : List SFr) (m : SMem) : Prop :=
  match fs with
  | [f] => match rdP f 7, rdP f 8, rdP f 9, rdP f 10, rdI f 11 with
    | some a, some b, some c, some d, some i => match rdC m a, rdA m b, rdC m c, rdA m d with
      | some x, some cs, some h, some hs => Q x cs h hs i ∧ subOk 1 [(1, a), (2, b), (3, c), (4, d)] [rpF td off n ask i] (rpM ds ty x cs h hs) fs m
      | _, _, _, _ => False
    | _, _, _, _, _ => False
  | _ => False
def rpR (pages : Int) (off n : Nat) (ds : Array Value) (ty : TypeId) (ask : Int) : Tree := run ER3 1000 1 (rpC pages off n ask) (oneM ds ty)
def rpS (td : List SIt) (off n : Nat) (ds : Array Value) (ty : TypeId) (ask x : Int) (cs : Array Value) (h : Int) (hs : Array Value) (i : Int) : Tree := stepT ER3.go (run ER3 1000) 1 [rpF td off n ask i] (rpM ds ty x cs h hs)
def tR : List SIt := (rpR 0 0 0 #[] 0 0).tdOf 6
def hR : List SIt := headL tR
end
end Go.Proofs.YtebjigahnpjjiaaDoor
/- Of runs: the rounds of RunsPlay, as propositions. No condition. -/
namespace Go.Proofs.YtebjigahnpjjiaaDoor
set_option maxRecDepth 100000
theorem rp_start (pages : Int) (off n : Nat) (ds : Array Value) (ty : TypeId) (ask : Int) (Q : Int → Array Value → Int → Array Value → Int → Prop) : (rpR pages off n ds ty ask).vc okRet (rpN tR off n ds ty ask Q) =
    ((decide ((↑n : Int) > (150 : Int)) = true → True) ∧ (decide ((↑n : Int) > (150 : Int)) = false → ((64 : Nat) = (64 : Nat) ∧ (64 : Nat) = (64 : Nat) ∧ True) ∧ ((64 : Nat) = (64 : Nat) ∧ True) ∧ ((64 : Nat) = (64 : Nat) ∧ (64 : Nat) = (64 : Nat) ∧ True) ∧ Q (uw (lowW (clampN pages))) (arrW (lowW (clampN pages))) (uw (lowW (clampN pages))) (arrW (lowW (clampN pages))) (0 : Int) ∧ CallKind.normal = CallKind.normal ∧ TodoOk (ren 1 [(1, 1), (2, 2), (3, 3), (4, 4)]) tR tR ∧ off = off ∧ n = n ∧ (0 : Int) = (0 : Int) ∧ ask = ask ∧ ty = ty ∧ ds = ds ∧ SBlk.ty (one1 (uw (lowW (clampN pages)))) = (26 : Nat) ∧ uw (lowW (clampN pages)) = uw (lowW (clampN pages)) ∧ SBlk.ty (one1 (uw (lowW (clampN pages)))) = (26 : Nat) ∧ uw (lowW (clampN pages)) = uw (lowW (clampN pages)) ∧ (29 : TypeId) = (29 : Nat) ∧ arrW (lowW (clampN pages)) = arrW (lowW (clampN pages)) ∧ (29 : TypeId) = (29 : Nat) ∧ arrW (lowW (clampN pages)) = arrW (lowW (clampN pages)) ∧ True)) := by kernel_rfl
theorem rp_nil (pages ask : Int) : (run ER3.go 1000 1 (rpNil pages ask) ⟨1, .nil, []⟩).vc okRet (fun _ _ => False) =
    (((64 : Nat) = (64 : Nat) ∧ (64 : Nat) = (64 : Nat) ∧ True) ∧ ((64 : Nat) = (64 : Nat) ∧ True) ∧ ((64 : Nat) = (64 : Nat) ∧ (64 : Nat) = (64 : Nat) ∧ True) ∧ (uw (wd (uw (lowW (clampN pages)))) = uw (lowW (clampN pages)) ∧ True) ∧ ((64 : Nat) = (64 : Nat) ∧ True) ∧ (arrW (wordOf (arrW (lowW (clampN pages)))) = arrW (lowW (clampN pages)) ∧ True) ∧ ((64 : Nat) = (64 : Nat) ∧ True) ∧ (uw (wd (uw (lowW (clampN pages)))) = uw (lowW (clampN pages)) ∧ arrW (wd (uw (lowW (clampN pages)))) = arrW (lowW (clampN pages)) ∧ True) ∧ ((64 : Nat) = (64 : Nat) ∧ True) ∧ (uw (wd (uw (lowW (clampN pages)))) = uw (lowW (clampN pages)) ∧ arrW (wd (uw (lowW (clampN pages)))) = arrW (lowW (clampN pages)) ∧ True) ∧ (((findOk (wd (uw (lowW (clampN pages)))) ask == decide (findR (wordOf (arrW (lowW (clampN pages)))) ask ≥ (0 : Int))) == true) = true → ((findOk (wd (uw (lowW (clampN pages)))) ask == true) = true → (((findI (wd (uw (lowW (clampN pages)))) ask == findR (wordOf (arrW (lowW (clampN pages)))) ask) == false) = true → (((!findOk (wd (uw (lowW (clampN pages)))) ask) == true) = true → (((findI (wd (uw (lowW (clampN pages)))) ask == (0 : Int)) == true) = true → True) ∧ (((findI (wd (uw (lowW (clampN pages)))) ask == (0 : Int)) == true) = false → False)) ∧ (((!findOk (wd (uw (lowW (clampN pages)))) ask) == true) = false → False)) ∧ (((findI (wd (uw (lowW (clampN pages)))) ask == findR (wordOf (arrW (lowW (clampN pages)))) ask) == false) = false → True)) ∧ ((findOk (wd (uw (lowW (clampN pages)))) ask == true) = false → (((!findOk (wd (uw (lowW (clampN pages)))) ask) == true) = true → (((findI (wd (uw (lowW (clampN pages)))) ask == (0 : Int)) == true) = true → True) ∧ (((findI (wd (uw (lowW (clampN pages)))) ask == (0 : Int)) == true) = false → False)) ∧ (((!findOk (wd (uw (lowW (clampN pages)))) ask) == true) = false → False))) ∧ (((findOk (wd (uw (lowW (clampN pages)))) ask == decide (findR (wordOf (arrW (lowW (clampN pages)))) ask ≥ (0 : Int))) == true) = false → False)) := by kernel_rfl
theorem rp_step (off n : Nat) (ds : Array Value) (ty : TypeId) (ask x : Int) (cs : Array Value) (h : Int) (hs : Array Value) (i : Int) (Q : Int → Array Value → Int → Array Value → Int → Prop) : (rpS hR off n ds ty ask x cs h hs i).vc okRet (rpN hR off n ds ty ask Q) =
    ((decide (i < (↑n : Int)) = true → (((0 : Int) ≤ i ∧ i < (↑n : Int)) ∧ True) ∧ (IsInt IntKind.u8 ds (off + Int.toNat i * 3) ∧ IsInt IntKind.i64 ds (off + Int.toNat i * 3 + 1) ∧ IsInt IntKind.i64 ds (off + Int.toNat i * 3 + 2) ∧ True) ∧ (Array.size cs = (64 : Nat) ∧ True) ∧ (arrW (wordOf cs) = cs ∧ True) ∧ ((intAt ds (off + Int.toNat i * 3) == (0 : Int)) = true → (uw (wd x) = x ∧ True) ∧ ((isR (wordOf cs) (intAt ds (off + Int.toNat i * 3 + 1)) (intAt ds (off + Int.toNat i * 3 + 2)) !intAt ds (off + Int.toNat i * 3) == (0 : Int)) = true → (Array.size cs = (64 : Nat) ∧ True) ∧ (arrW (wordOf cs) = cs ∧ mayB (intAt ds (off + Int.toNat i * 3 + 1)) (intAt ds (off + Int.toNat i * 3 + 2)) = true ∧ True) ∧ ((64 : Nat) = (64 : Nat) ∧ (64 : Nat) = Array.size cs ∧ True) ∧ ((!giveOk (wd x) (intAt ds (off + Int.toNat i * 3 + 1)) (intAt ds (off + Int.toNat i * 3 + 2)) == isR (wordOf cs) (intAt ds (off + Int.toNat i * 3 + 1)) (intAt ds (off + Int.toNat i * 3 + 2)) !intAt ds (off + Int.toNat i * 3) == (0 : Int)) = true → False) ∧ ((!giveOk (wd x) (intAt ds (off + Int.toNat i * 3 + 1)) (intAt ds (off + Int.toNat i * 3 + 2)) == isR (wordOf cs) (intAt ds (off + Int.toNat i * 3 + 1)) (intAt ds (off + Int.toNat i * 3 + 2)) !intAt ds (off + Int.toNat i * 3) == (0 : Int)) = false → ((i == ari BinOp.quo IntKind.i64 (↑n : Int) (2 : Int)) = true → ((64 : Nat) = (64 : Nat) ∧ True) ∧ ((64 : Nat) = (64 : Nat) ∧ (64 : Nat) = Array.size hs ∧ True) ∧ Q (uw (giveW (wd x) (intAt ds (off + Int.toNat i * 3 + 1)) (intAt ds (off + Int.toNat i * 3 + 2)))) (arrW (withW (wordOf cs) (intAt ds (off + Int.toNat i * 3 + 1)) (intAt ds (off + Int.toNat i * 3 + 2)) (intAt ds (off + Int.toNat i * 3) == (0 : Int)))) (uw (giveW (wd x) (intAt ds (off + Int.toNat i * 3 + 1)) (intAt ds (off + Int.toNat i * 3 + 2)))) (arrW (withW (wordOf cs) (intAt ds (off + Int.toNat i * 3 + 1)) (intAt ds (off + Int.toNat i * 3 + 2)) (intAt ds (off + Int.toNat i * 3) == (0 : Int)))) (ari BinOp.add IntKind.i64 i (1 : Int)) ∧ CallKind.normal = CallKind.normal ∧ TodoOk (ren 1 [(1, 1), (2, 2), (3, 3), (4, 4)]) hR hR ∧ off = off ∧ n = n ∧ ari BinOp.add IntKind.i64 i (1 : Int) = ari BinOp.add IntKind.i64 i (1 : Int) ∧ ask = ask ∧ ty = ty ∧ ds = ds ∧ SBlk.ty (one1 (uw (giveW (wd x) (intAt ds (off + Int.toNat i * 3 + 1)) (intAt ds (off + Int.toNat i * 3 + 2))))) = SBlk.ty (one1 x) ∧ uw (giveW (wd x) (intAt ds (off + Int.toNat i * 3 + 1)) (intAt ds (off + Int.toNat i * 3 + 2))) = uw (giveW (wd x) (intAt ds (off + Int.toNat i * 3 + 1)) (intAt ds (off + Int.toNat i * 3 + 2))) ∧ SBlk.ty (one1 (uw (giveW (wd x) (intAt ds (off + Int.toNat i * 3 + 1)) (intAt ds (off + Int.toNat i * 3 + 2))))) = SBlk.ty (one1 h) ∧ uw (giveW (wd x) (intAt ds (off + Int.toNat i * 3 + 1)) (intAt ds (off + Int.toNat i * 3 + 2))) = uw (giveW (wd x) (intAt ds (off + Int.toNat i * 3 + 1)) (intAt ds (off + Int.toNat i * 3 + 2))) ∧ (29 : TypeId) = (29 : TypeId) ∧ arrW (withW (wordOf cs) (intAt ds (off + Int.toNat i * 3 + 1)) (intAt ds (off + Int.toNat i * 3 + 2)) (intAt ds (off + Int.toNat i * 3) == (0 : Int))) = arrW (withW (wordOf cs) (intAt ds (off + Int.toNat i * 3 + 1)) (intAt ds (off + Int.toNat i * 3 + 2)) (intAt ds (off + Int.toNat i * 3) == (0 : Int))) ∧ (29 : TypeId) = (29 : TypeId) ∧ arrW (withW (wordOf cs) (intAt ds (off + Int.toNat i * 3 + 1)) (intAt ds (off + Int.toNat i * 3 + 2)) (intAt ds (off + Int.toNat i * 3) == (0 : Int))) = arrW (withW (wordOf cs) (intAt ds (off + Int.toNat i * 3 + 1)) (intAt ds (off + Int.toNat i * 3 + 2)) (intAt ds (off + Int.toNat i * 3) == (0 : Int))) ∧ True) ∧ ((i == ari BinOp.quo IntKind.i64 (↑n : Int) (2 : Int)) = false → Q (uw (giveW (wd x) (intAt ds (off + Int.toNat i * 3 + 1)) (intAt ds (off + Int.toNat i * 3 + 2)))) (arrW (withW (wordOf cs) (intAt ds (off + Int.toNat i * 3 + 1)) (intAt ds (off + Int.toNat i * 3 + 2)) (intAt ds (off + Int.toNat i * 3) == (0 : Int)))) h hs (ari BinOp.add IntKind.i64 i (1 : Int)) ∧ CallKind.normal = CallKind.normal ∧ TodoOk (ren 1 [(1, 1), (2, 2), (3, 3), (4, 4)]) hR hR ∧ off = off ∧ n = n ∧ ari BinOp.add IntKind.i64 i (1 : Int) = ari BinOp.add IntKind.i64 i (1 : Int) ∧ ask = ask ∧ ty = ty ∧ ds = ds ∧ SBlk.ty (one1 (uw (giveW (wd x) (intAt ds (off + Int.toNat i * 3 + 1)) (intAt ds (off + Int.toNat i * 3 + 2))))) = SBlk.ty (one1 x) ∧ uw (giveW (wd x) (intAt ds (off + Int.toNat i * 3 + 1)) (intAt ds (off + Int.toNat i * 3 + 2))) = uw (giveW (wd x) (intAt ds (off + Int.toNat i * 3 + 1)) (intAt ds (off + Int.toNat i * 3 + 2))) ∧ SBlk.ty (one1 h) = SBlk.ty (one1 h) ∧ h = h ∧ (29 : TypeId) = (29 : TypeId) ∧ arrW (withW (wordOf cs) (intAt ds (off + Int.toNat i * 3 + 1)) (intAt ds (off + Int.toNat i * 3 + 2)) (intAt ds (off + Int.toNat i * 3) == (0 : Int))) = arrW (withW (wordOf cs) (intAt ds (off + Int.toNat i * 3 + 1)) (intAt ds (off + Int.toNat i * 3 + 2)) (intAt ds (off + Int.toNat i * 3) == (0 : Int))) ∧ (29 : TypeId) = (29 : TypeId) ∧ hs = hs ∧ True))) ∧ ((isR (wordOf cs) (intAt ds (off + Int.toNat i * 3 + 1)) (intAt ds (off + Int.toNat i * 3 + 2)) !intAt ds (off + Int.toNat i * 3) == (0 : Int)) = false → ((!giveOk (wd x) (intAt ds (off + Int.toNat i * 3 + 1)) (intAt ds (off + Int.toNat i * 3 + 2)) == isR (wordOf cs) (intAt ds (off + Int.toNat i * 3 + 1)) (intAt ds (off + Int.toNat i * 3 + 2)) !intAt ds (off + Int.toNat i * 3) == (0 : Int)) = true → False) ∧ ((!giveOk (wd x) (intAt ds (off + Int.toNat i * 3 + 1)) (intAt ds (off + Int.toNat i * 3 + 2)) == isR (wordOf cs) (intAt ds (off + Int.toNat i * 3 + 1)) (intAt ds (off + Int.toNat i * 3 + 2)) !intAt ds (off + Int.toNat i * 3) == (0 : Int)) = false → ((i == ari BinOp.quo IntKind.i64 (↑n : Int) (2 : Int)) = true → (Array.size cs = (64 : Nat) ∧ True) ∧ (Array.size cs = (64 : Nat) ∧ Array.size cs = Array.size hs ∧ True) ∧ Q (uw (giveW (wd x) (intAt ds (off + Int.toNat i * 3 + 1)) (intAt ds (off + Int.toNat i * 3 + 2)))) cs (uw (giveW (wd x) (intAt ds (off + Int.toNat i * 3 + 1)) (intAt ds (off + Int.toNat i * 3 + 2)))) cs (ari BinOp.add IntKind.i64 i (1 : Int)) ∧ CallKind.normal = CallKind.normal ∧ TodoOk (ren 1 [(1, 1), (2, 2), (3, 3), (4, 4)]) hR hR ∧ off = off ∧ n = n ∧ ari BinOp.add IntKind.i64 i (1 : Int) = ari BinOp.add IntKind.i64 i (1 : Int) ∧ ask = ask ∧ ty = ty ∧ ds = ds ∧ SBlk.ty (one1 (uw (giveW (wd x) (intAt ds (off + Int.toNat i * 3 + 1)) (intAt ds (off + Int.toNat i * 3 + 2))))) = SBlk.ty (one1 x) ∧ uw (giveW (wd x) (intAt ds (off + Int.toNat i * 3 + 1)) (intAt ds (off + Int.toNat i * 3 + 2))) = uw (giveW (wd x) (intAt ds (off + Int.toNat i * 3 + 1)) (intAt ds (off + Int.toNat i * 3 + 2))) ∧ SBlk.ty (one1 (uw (giveW (wd x) (intAt ds (off + Int.toNat i * 3 + 1)) (intAt ds (off + Int.toNat i * 3 + 2))))) = SBlk.ty (one1 h) ∧ uw (giveW (wd x) (intAt ds (off + Int.toNat i * 3 + 1)) (intAt ds (off + Int.toNat i * 3 + 2))) = uw (giveW (wd x) (intAt ds (off + Int.toNat i * 3 + 1)) (intAt ds (off + Int.toNat i * 3 + 2))) ∧ (29 : TypeId) = (29 : TypeId) ∧ cs = cs ∧ (29 : TypeId) = (29 : TypeId) ∧ cs = cs ∧ True) ∧ ((i == ari BinOp.quo IntKind.i64 (↑n : Int) (2 : Int)) = false → Q (uw (giveW (wd x) (intAt ds (off + Int.toNat i * 3 + 1)) (intAt ds (off + Int.toNat i * 3 + 2)))) cs h hs (ari BinOp.add IntKind.i64 i (1 : Int)) ∧ CallKind.normal = CallKind.normal ∧ TodoOk (ren 1 [(1, 1), (2, 2), (3, 3), (4, 4)]) hR hR ∧ off = off ∧ n = n ∧ ari BinOp.add IntKind.i64 i (1 : Int) = ari BinOp.add IntKind.i64 i (1 : Int) ∧ ask = ask ∧ ty = ty ∧ ds = ds ∧ SBlk.ty (one1 (uw (giveW (wd x) (intAt ds (off + Int.toNat i * 3 + 1)) (intAt ds (off + Int.toNat i * 3 + 2))))) = SBlk.ty (one1 x) ∧ uw (giveW (wd x) (intAt ds (off + Int.toNat i * 3 + 1)) (intAt ds (off + Int.toNat i * 3 + 2))) = uw (giveW (wd x) (intAt ds (off + Int.toNat i * 3 + 1)) (intAt ds (off + Int.toNat i * 3 + 2))) ∧ SBlk.ty (one1 h) = SBlk.ty (one1 h) ∧ h = h ∧ (29 : TypeId) = (29 : TypeId) ∧ cs = cs ∧ (29 : TypeId) = (29 : TypeId) ∧ hs = hs ∧ True)))) ∧ ((intAt ds (off + Int.toNat i * 3) == (0 : Int)) = false → (uw (wd x) = x ∧ True) ∧ ((isR (wordOf cs) (intAt ds (off + Int.toNat i * 3 + 1)) (intAt ds (off + Int.toNat i * 3 + 2)) !intAt ds (off + Int.toNat i * 3) == (0 : Int)) = true → (Array.size cs = (64 : Nat) ∧ True) ∧ (arrW (wordOf cs) = cs ∧ mayB (intAt ds (off + Int.toNat i * 3 + 1)) (intAt ds (off + Int.toNat i * 3 + 2)) = true ∧ True) ∧ ((64 : Nat) = (64 : Nat) ∧ (64 : Nat) = Array.size cs ∧ True) ∧ ((!takeOk (wd x) (intAt ds (off + Int.toNat i * 3 + 1)) (intAt ds (off + Int.toNat i * 3 + 2)) == isR (wordOf cs) (intAt ds (off + Int.toNat i * 3 + 1)) (intAt ds (off + Int.toNat i * 3 + 2)) !intAt ds (off + Int.toNat i * 3) == (0 : Int)) = true → False) ∧ ((!takeOk (wd x) (intAt ds (off + Int.toNat i * 3 + 1)) (intAt ds (off + Int.toNat i * 3 + 2)) == isR (wordOf cs) (intAt ds (off + Int.toNat i * 3 + 1)) (intAt ds (off + Int.toNat i * 3 + 2)) !intAt ds (off + Int.toNat i * 3) == (0 : Int)) = false → ((i == ari BinOp.quo IntKind.i64 (↑n : Int) (2 : Int)) = true → ((64 : Nat) = (64 : Nat) ∧ True) ∧ ((64 : Nat) = (64 : Nat) ∧ (64 : Nat) = Array.size hs ∧ True) ∧ Q (uw (takeW (wd x) (intAt ds (off + Int.toNat i * 3 + 1)) (intAt ds (off + Int.toNat i * 3 + 2)))) (arrW (withW (wordOf cs) (intAt ds (off + Int.toNat i * 3 + 1)) (intAt ds (off + Int.toNat i * 3 + 2)) (intAt ds (off + Int.toNat i * 3) == (0 : Int)))) (uw (takeW (wd x) (intAt ds (off + Int.toNat i * 3 + 1)) (intAt ds (off + Int.toNat i * 3 + 2)))) (arrW (withW (wordOf cs) (intAt ds (off + Int.toNat i * 3 + 1)) (intAt ds (off + Int.toNat i * 3 + 2)) (intAt ds (off + Int.toNat i * 3) == (0 : Int)))) (ari BinOp.add IntKind.i64 i (1 : Int)) ∧ CallKind.normal = CallKind.normal ∧ TodoOk (ren 1 [(1, 1), (2, 2), (3, 3), (4, 4)]) hR hR ∧ off = off ∧ n = n ∧ ari BinOp.add IntKind.i64 i (1 : Int) = ari BinOp.add IntKind.i64 i (1 : Int) ∧ ask = ask ∧ ty = ty ∧ ds = ds ∧ SBlk.ty (one1 (uw (takeW (wd x) (intAt ds (off + Int.toNat i * 3 + 1)) (intAt ds (off + Int.toNat i * 3 + 2))))) = SBlk.ty (one1 x) ∧ uw (takeW (wd x) (intAt ds (off + Int.toNat i * 3 + 1)) (intAt ds (off + Int.toNat i * 3 + 2))) = uw (takeW (wd x) (intAt ds (off + Int.toNat i * 3 + 1)) (intAt ds (off + Int.toNat i * 3 + 2))) ∧ SBlk.ty (one1 (uw (takeW (wd x) (intAt ds (off + Int.toNat i * 3 + 1)) (intAt ds (off + Int.toNat i * 3 + 2))))) = SBlk.ty (one1 h) ∧ uw (takeW (wd x) (intAt ds (off + Int.toNat i * 3 + 1)) (intAt ds (off + Int.toNat i * 3 + 2))) = uw (takeW (wd x) (intAt ds (off + Int.toNat i * 3 + 1)) (intAt ds (off + Int.toNat i * 3 + 2))) ∧ (29 : TypeId) = (29 : TypeId) ∧ arrW (withW (wordOf cs) (intAt ds (off + Int.toNat i * 3 + 1)) (intAt ds (off + Int.toNat i * 3 + 2)) (intAt ds (off + Int.toNat i * 3) == (0 : Int))) = arrW (withW (wordOf cs) (intAt ds (off + Int.toNat i * 3 + 1)) (intAt ds (off + Int.toNat i * 3 + 2)) (intAt ds (off + Int.toNat i * 3) == (0 : Int))) ∧ (29 : TypeId) = (29 : TypeId) ∧ arrW (withW (wordOf cs) (intAt ds (off + Int.toNat i * 3 + 1)) (intAt ds (off + Int.toNat i * 3 + 2)) (intAt ds (off + Int.toNat i * 3) == (0 : Int))) = arrW (withW (wordOf cs) (intAt ds (off + Int.toNat i * 3 + 1)) (intAt ds (off + Int.toNat i * 3 + 2)) (intAt ds (off + Int.toNat i * 3) == (0 : Int))) ∧ True) ∧ ((i == ari BinOp.quo IntKind.i64 (↑n : Int) (2 : Int)) = false → Q (uw (takeW (wd x) (intAt ds (off + Int.toNat i * 3 + 1)) (intAt ds (off + Int.toNat i * 3 + 2)))) (arrW (withW (wordOf cs) (intAt ds (off + Int.toNat i * 3 + 1)) (intAt ds (off + Int.toNat i * 3 + 2)) (intAt ds (off + Int.toNat i * 3) == (0 : Int)))) h hs (ari BinOp.add IntKind.i64 i (1 : Int)) ∧ CallKind.normal = CallKind.normal ∧ TodoOk (ren 1 [(1, 1), (2, 2), (3, 3), (4, 4)]) hR hR ∧ off = off ∧ n = n ∧ ari BinOp.add IntKind.i64 i (1 : Int) = ari BinOp.add IntKind.i64 i (1 : Int) ∧ ask = ask ∧ ty = ty ∧ ds = ds ∧ SBlk.ty (one1 (uw (takeW (wd x) (intAt ds (off + Int.toNat i * 3 + 1)) (intAt ds (off + Int.toNat i * 3 + 2))))) = SBlk.ty (one1 x) ∧ uw (takeW (wd x) (intAt ds (off + Int.toNat i * 3 + 1)) (intAt ds (off + Int.toNat i * 3 + 2))) = uw (takeW (wd x) (intAt ds (off + Int.toNat i * 3 + 1)) (intAt ds (off + Int.toNat i * 3 + 2))) ∧ SBlk.ty (one1 h) = SBlk.ty (one1 h) ∧ h = h ∧ (29 : TypeId) = (29 : TypeId) ∧ arrW (withW (wordOf cs) (intAt ds (off + Int.toNat i * 3 + 1)) (intAt ds (off + Int.toNat i * 3 + 2)) (intAt ds (off + Int.toNat i * 3) == (0 : Int))) = arrW (withW (wordOf cs) (intAt ds (off + Int.toNat i * 3 + 1)) (intAt ds (off + Int.toNat i * 3 + 2)) (intAt ds (off + Int.toNat i * 3) == (0 : Int))) ∧ (29 : TypeId) = (29 : TypeId) ∧ hs = hs ∧ True))) ∧ ((isR (wordOf cs) (intAt ds (off + Int.toNat i * 3 + 1)) (intAt ds (off + Int.toNat i * 3 + 2)) !intAt ds (off + Int.toNat i * 3) == (0 : Int)) = false → ((!takeOk (wd x) (intAt ds (off + Int.toNat i * 3 + 1)) (intAt ds (off + Int.toNat i * 3 + 2)) == isR (wordOf cs) (intAt ds (off + Int.toNat i * 3 + 1)) (intAt ds (off + Int.toNat i * 3 + 2)) !intAt ds (off + Int.toNat i * 3) == (0 : Int)) = true → False) ∧ ((!takeOk (wd x) (intAt ds (off + Int.toNat i * 3 + 1)) (intAt ds (off + Int.toNat i * 3 + 2)) == isR (wordOf cs) (intAt ds (off + Int.toNat i * 3 + 1)) (intAt ds (off + Int.toNat i * 3 + 2)) !intAt ds (off + Int.toNat i * 3) == (0 : Int)) = false → ((i == ari BinOp.quo IntKind.i64 (↑n : Int) (2 : Int)) = true → (Array.size cs = (64 : Nat) ∧ True) ∧ (Array.size cs = (64 : Nat) ∧ Array.size cs = Array.size hs ∧ True) ∧ Q (uw (takeW (wd x) (intAt ds (off + Int.toNat i * 3 + 1)) (intAt ds (off + Int.toNat i * 3 + 2)))) cs (uw (takeW (wd x) (intAt ds (off + Int.toNat i * 3 + 1)) (intAt ds (off + Int.toNat i * 3 + 2)))) cs (ari BinOp.add IntKind.i64 i (1 : Int)) ∧ CallKind.normal = CallKind.normal ∧ TodoOk (ren 1 [(1, 1), (2, 2), (3, 3), (4, 4)]) hR hR ∧ off = off ∧ n = n ∧ ari BinOp.add IntKind.i64 i (1 : Int) = ari BinOp.add IntKind.i64 i (1 : Int) ∧ ask = ask ∧ ty = ty ∧ ds = ds ∧ SBlk.ty (one1 (uw (takeW (wd x) (intAt ds (off + Int.toNat i * 3 + 1)) (intAt ds (off + Int.toNat i * 3 + 2))))) = SBlk.ty (one1 x) ∧ uw (takeW (wd x) (intAt ds (off + Int.toNat i * 3 + 1)) (intAt ds (off + Int.toNat i * 3 + 2))) = uw (takeW (wd x) (intAt ds (off + Int.toNat i * 3 + 1)) (intAt ds (off + Int.toNat i * 3 + 2))) ∧ SBlk.ty (one1 (uw (takeW (wd x) (intAt ds (off + Int.toNat i * 3 + 1)) (intAt ds (off + Int.toNat i * 3 + 2))))) = SBlk.ty (one1 h) ∧ uw (takeW (wd x) (intAt ds (off + Int.toNat i * 3 + 1)) (intAt ds (off + Int.toNat i * 3 + 2))) = uw (takeW (wd x) (intAt ds (off + Int.toNat i * 3 + 1)) (intAt ds (off + Int.toNat i * 3 + 2))) ∧ (29 : TypeId) = (29 : TypeId) ∧ cs = cs ∧ (29 : TypeId) = (29 : TypeId) ∧ cs = cs ∧ True) ∧ ((i == ari BinOp.quo IntKind.i64 (↑n : Int) (2 : Int)) = false → Q (uw (takeW (wd x) (intAt ds (off + Int.toNat i * 3 + 1)) (intAt ds (off + Int.toNat i * 3 + 2)))) cs h hs (ari BinOp.add IntKind.i64 i (1 : Int)) ∧ CallKind.normal = CallKind.normal ∧ TodoOk (ren 1 [(1, 1), (2, 2), (3, 3), (4, 4)]) hR hR ∧ off = off ∧ n = n ∧ ari BinOp.add IntKind.i64 i (1 : Int) = ari BinOp.add IntKind.i64 i (1 : Int) ∧ ask = ask ∧ ty = ty ∧ ds = ds ∧ SBlk.ty (one1 (uw (takeW (wd x) (intAt ds (off + Int.toNat i * 3 + 1)) (intAt ds (off + Int.toNat i * 3 + 2))))) = SBlk.ty (one1 x) ∧ uw (takeW (wd x) (intAt ds (off + Int.toNat i * 3 + 1)) (intAt ds (off + Int.toNat i * 3 + 2))) = uw (takeW (wd x) (intAt ds (off + Int.toNat i * 3 + 1)) (intAt ds (off + Int.toNat i * 3 + 2))) ∧ SBlk.ty (one1 h) = SBlk.ty (one1 h) ∧ h = h ∧ (29 : TypeId) = (29 : TypeId) ∧ cs = cs ∧ (29 : TypeId) = (29 : TypeId) ∧ hs = hs ∧ True))))) ∧ (decide (i < (↑n : Int)) = false → (uw (wd x) = x ∧ True) ∧ (Array.size cs = (64 : Nat) ∧ True) ∧ (arrW (wordOf cs) = cs ∧ True) ∧ (Array.size cs = (64 : Nat) ∧ True) ∧ (uw (wd x) = x ∧ arrW (wd x) = cs ∧ True) ∧ (Array.size hs = (64 : Nat) ∧ True) ∧ (uw (wd h) = h ∧ arrW (wd h) = hs ∧ True) ∧ (((findOk (wd x) ask == decide (findR (wordOf cs) ask ≥ (0 : Int))) == true) = true → ((findOk (wd x) ask == true) = true → (((findI (wd x) ask == findR (wordOf cs) ask) == false) = true → (((!findOk (wd x) ask) == true) = true → (((findI (wd x) ask == (0 : Int)) == true) = true → True) ∧ (((findI (wd x) ask == (0 : Int)) == true) = false → False)) ∧ (((!findOk (wd x) ask) == true) = false → False)) ∧ (((findI (wd x) ask == findR (wordOf cs) ask) == false) = false → True)) ∧ ((findOk (wd x) ask == true) = false → (((!findOk (wd x) ask) == true) = true → (((findI (wd x) ask == (0 : Int)) == true) = true → True) ∧ (((findI (wd x) ask == (0 : Int)) == true) = false → False)) ∧ (((!findOk (wd x) ask) == true) = false → False))) ∧ (((findOk (wd x) ask == decide (findR (wordOf cs) ask ≥ (0 : Int))) == true) = false → False))) := by kernel_rfl
end Go.Proofs.YtebjigahnpjjiaaDoor
/- Of runs: RunsPlay: its rounds, together. No condition. -/
namespace Go.Proofs.YtebjigahnpjjiaaDoor
set_option maxRecDepth 100000
set_option maxHeartbeats 2000000
theorem rpN_good {td : List SIt} {off n : Nat} {ds : Array Value} {ty : TypeId} {ask : Int} {Q : Int → Array Value → Int → Array Value → Int → Prop} {A : SV → SMem → Prop} {fs : List SFr} {m : SMem} (hb : rpN td off n ds ty ask Q fs m)
    (hg : ∀ x cs h hs i, Q x cs h hs i → Good ER3.P A 1 [rpF td off n ask i] (rpM ds ty x cs h hs)) : Good ER3.P A 1 fs m := by
  unfold rpN at hb
  split at hb
  case h_2 => exact hb.elim
  split at hb
  case h_2 => exact hb.elim
  split at hb
  · exact Good.of_sub hb.2 (hg _ _ _ _ _ hb.1)
  · exact hb.elim
/-- An act's cells. -/
structure ActIs (ds : Array Value) (p : Nat) : Prop where
  a0 : IsInt .u8 ds p
  a1 : IsInt .i64 ds (p + 1)
  a2 : IsInt .i64 ds (p + 2)
def ActsOk (ds : Array Value) (off n : Nat) : Prop := ∀ j, j < n → ActIs ds (off + j * 3)
theorem isR_f (X : BitVec 64) (a n : Int) : isR X a n false = giveOk X a n := rfl
theorem isR_t (X : BitVec 64) (a n : Int) : isR X a n true = takeOk X a n := rfl
theorem give_with {X : BitVec 64} {a n : Int} (h : giveOk X a n = true) : withW X a n true = giveW X a n ∧ mayB a n = true := by
  unfold withW giveW
  rw [if_pos rfl, if_pos h]
  refine ⟨rfl, ?_⟩
  unfold giveOk at h
  rw [Bool.and_eq_true] at h
  exact h.1
theorem take_with {X : BitVec 64} {a n : Int} (h : takeOk X a n = true) : withW X a n false = takeW X a n ∧ mayB a n = true := by
  unfold withW takeW
  rw [if_neg (show ¬ (false = true) by decide), if_pos h]
  refine ⟨rfl, ?_⟩
  unfold takeOk at h
  rw [Bool.and_eq_true] at h
  exact h.1
theorem arrW_size (X : BitVec 64) : (arrW X).size = 64 := arrF_size _
theorem find_all (X : BitVec 64) (n : Int) : (findI X n = 0 ∧ findOk X n = false ∧ findR X n = -1) ∨ ∃ p : Nat, findI X n = p ∧ findOk X n = true ∧ findR X n = p := by
  unfold findI findOk findR
  cases findN X n with
  | none => exact .inl ⟨rfl, rfl, rfl⟩
  | some p => exact .inr ⟨p, rfl, rfl, rfl⟩
section
variable (off n : Nat) (ds : Array Value) (ty : TypeId) (ask : Int)
def rpQ (i : Int) (x : Int) (cs : Array Value) (h : Int) (hs : Array Value) (k : Int) : Prop := ∃ X H, x = uw X ∧ cs = arrW X ∧ h = uw H ∧ hs = arrW H ∧ k = i + 1 ∧ i < n
theorem rp_good (hn : n ≤ 150) (hA : ActsOk ds off n) : ∀ (j : Nat) (i : Int) (X H : BitVec 64), 0 ≤ i → i ≤ n → n - i < j → Good ER3.P okRet 1 [rpF hR off n ask i] (rpM ds ty (uw X) (arrW X) (uw H) (arrW H)) := by
  intro j
  induction j with
  | zero => intro i X H _ _ h; omega
  | succ j ih =>
    intro i X H h0 hi hj
    refine past_vc ER3_ok 1000 (rp_step off n ds ty ask (uw X) (arrW X) (uw H) (arrW H) i (rpQ n i)) ?_ (fun _ _ h => h)
      (fun fs m hb => rpN_good hb fun x cs h hs k ⟨Y, K, e1, e2, e3, e4, e5, e6⟩ => by rw [e1, e2, e3, e4, e5]; exact ih (i + 1) Y K (by omega) (by omega) (by omega))
    refine ⟨fun h => ?_, fun h => ?_⟩
    · have hlt : i < (n : Int) := by simpa using h
      obtain ⟨a0, a1, a2⟩ := hA i.toNat (by omega)
      have ei : IntKind.i64.wrap (i + 1) = i + 1 := wrap_in (by omega) (by omega)
      rw [wordOf_arr, wd_uw, ari_add, ei]
      generalize hda : intAt ds (off + i.toNat * 3 + 1) = a
      generalize hdc : intAt ds (off + i.toNat * 3 + 2) = c
      generalize hdd : intAt ds (off + i.toNat * 3) = d
      refine ⟨⟨⟨h0, hlt⟩, trivial⟩, ⟨a0, a1, a2, trivial⟩, ⟨arrW_size X, trivial⟩, ⟨rfl, trivial⟩, fun hd => ⟨⟨rfl, trivial⟩, ?_⟩, fun hd => ⟨⟨rfl, trivial⟩, ?_⟩⟩
      · rw [hd]
        simp only [Bool.not_true, isR_f, beq_self_eq_true, Bool.false_eq_true, false_implies, true_implies, true_and, arrW_size]
        cases hG : giveOk X a c with
        | true =>
          obtain ⟨e1, e2⟩ := give_with hG
          have hQ1 : rpQ n i (uw (giveW X a c)) (arrW (giveW X a c)) (uw (giveW X a c)) (arrW (giveW X a c)) (i + 1) := ⟨_, _, rfl, rfl, rfl, rfl, rfl, hlt⟩
          have hQ2 : rpQ n i (uw (giveW X a c)) (arrW (giveW X a c)) (uw H) (arrW H) (i + 1) := ⟨_, _, rfl, rfl, rfl, rfl, rfl, hlt⟩
          simp only [e1, e2, Bool.true_eq_false, true_implies, false_implies, and_true, true_and]
          repeat' first | exact trivial | exact hQ1 | exact hQ2 | apply And.intro | intro _ | exact rfl
        | false =>
          have e1 := give_no X a c hG
          have hQ1 : rpQ n i (uw X) (arrW X) (uw X) (arrW X) (i + 1) := ⟨_, _, rfl, rfl, rfl, rfl, rfl, hlt⟩
          have hQ2 : rpQ n i (uw X) (arrW X) (uw H) (arrW H) (i + 1) := ⟨_, _, rfl, rfl, rfl, rfl, rfl, hlt⟩
          simp only [e1, Bool.false_eq_true, true_implies, false_implies, and_true, true_and]
          repeat' first | exact trivial | exact hQ1 | exact hQ2 | apply And.intro | intro _ | exact rfl
      · rw [hd]
        simp only [Bool.not_false, isR_t, beq_self_eq_true, Bool.not_true, Bool.false_eq_true, false_implies, true_implies, true_and, arrW_size]
        cases hG : takeOk X a c with
        | true =>
          obtain ⟨e1, e2⟩ := take_with hG
          have hQ1 : rpQ n i (uw (takeW X a c)) (arrW (takeW X a c)) (uw (takeW X a c)) (arrW (takeW X a c)) (i + 1) := ⟨_, _, rfl, rfl, rfl, rfl, rfl, hlt⟩
          have hQ2 : rpQ n i (uw (takeW X a c)) (arrW (takeW X a c)) (uw H) (arrW H) (i + 1) := ⟨_, _, rfl, rfl, rfl, rfl, rfl, hlt⟩
          simp only [e1, e2, Bool.true_eq_false, true_implies, false_implies, and_true, true_and]
          repeat' first | exact trivial | exact hQ1 | exact hQ2 | apply And.intro | intro _ | exact rfl
        | false =>
          have e1 := take_no X a c hG
          have hQ1 : rpQ n i (uw X) (arrW X) (uw X) (arrW X) (i + 1) := ⟨_, _, rfl, rfl, rfl, rfl, rfl, hlt⟩
          have hQ2 : rpQ n i (uw X) (arrW X) (uw H) (arrW H) (i + 1) := ⟨_, _, rfl, rfl, rfl, rfl, rfl, hlt⟩
          simp only [e1, Bool.false_eq_true, true_implies, false_implies, and_true, true_and]
          repeat' first | exact trivial | exact hQ1 | exact hQ2 | apply And.intro | intro _ | exact rfl
    · rw [wordOf_arr, wd_uw, wd_uw]
      simp only [arrW_size]
      rcases find_all X ask with ⟨e1, e2, e3⟩ | ⟨p, e1, e2, e3⟩
      · have hd : decide ((-1 : Int) ≥ 0) = false := rfl
        simp only [e1, e2, e3, hd]
        simp
      · have hd : decide ((p : Int) ≥ 0) = true := decide_eq_true (by omega)
        simp only [e1, e2, e3, hd]
        simp
theorem rp_begin (pages : Int) (hA : n ≤ 150 → ActsOk ds off n) : Good ER3.P okRet 1 (rpC pages off n ask) (oneM ds ty) := by
  refine run_vc ER3_ok 1000 (rp_start pages off n ds ty ask (fun x cs h hs k => x = uw (lowW (clampN pages)) ∧ cs = arrW (lowW (clampN pages)) ∧ h = uw (lowW (clampN pages)) ∧ hs = arrW (lowW (clampN pages)) ∧ k = 0 ∧ n ≤ 150)) ?_ (fun _ _ h => h)
    (fun fs m hb => rpN_good hb fun x cs h hs k ⟨e1, e2, e3, e4, e5, e6⟩ => by
      rw [e1, e2, e3, e4, e5]
      exact Good.head (rp_good off n ds ty ask e6 (hA e6) (n + 1) 0 _ _ (by omega) (by omega) (by omega)))
  refine ⟨fun _ => trivial, fun h => ?_⟩
  have hn : n ≤ 150 := by
    have : ¬ ((n : Nat) : Int) > 150 := by simpa using h
    omega
  refine ⟨?_, ?_, ?_, ⟨rfl, rfl, rfl, rfl, rfl, hn⟩, ?_⟩
  all_goals repeat' first | exact trivial | apply And.intro | exact rfl
end
theorem rp_empty (pages ask : Int) : Good ER3.go.P okRet 1 (rpNil pages ask) ⟨1, .nil, []⟩ := by
  refine run_vc ER3_ok.go 1000 (rp_nil pages ask) ?_ (fun _ _ h => h) (fun _ _ h => h.elim)
  rw [wordOf_arr, wd_uw]
  rcases find_all (lowW (clampN pages)) ask with ⟨e1, e2, e3⟩ | ⟨p, e1, e2, e3⟩
  · have hd : decide ((-1 : Int) ≥ 0) = false := rfl
    simp only [e1, e2, e3, hd]
    simp
  · have hd : decide ((p : Int) ≥ 0) = true := decide_eq_true (by omega)
    simp only [e1, e2, e3, hd]
    simp
end Go.Proofs.YtebjigahnpjjiaaDoor
