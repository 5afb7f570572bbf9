/- Of token: the contract of Return. No condition. -/
import Derived.Test.YtnjmockpdmchcaaMB
import Derived.Test.YtnjmockpdmchcaaE1
import Derived.Test.YtnjmockpdmchcaaK15
import Derived.Test.YtnjmockpdmchcaaF1
import Derived.Test.YtnjmockpdmchcaaRows
import Derived.ProofKit
import Derived.OpenShut
import Derived.ChangeSame
import Derived.Deep.Slices
import Derived.Deep.Fields
set_option linter.unusedVariables false
set_option linter.unusedSimpArgs false
namespace Go.Proofs.Ytnjmockpdmchcaa
set_option maxRecDepth 100000
set_option linter.unusedSimpArgs false
set_option linter.unusedVariables false
theorem ints_u32s (l : List Int) : ints (u32s l) = l := by
  unfold ints u32s
  rw [List.map_map]
  exact (List.map_congr_left fun x _ => rfl).trans (List.map_id _)
theorem conU_ok (n : Nat) : ∀ g l m t, conU n g l m = some t → Con E0 g l m t := by
  intro g l m t h
  unfold conU at h
  split at h
  · cases h
    refine Con.asked fun hq => ?_
    intro A hs
    exact out_none m A ⟨fun p hp => hq p hp, hs⟩
  · rename_i ts i k
    split at h
    · rename_i cs w hb
      cases h
      refine Con.asked fun hq => ?_
      have e1 : cs = u32s (ints cs) := hq _ (by simp)
      have e2 : k.den = (ints cs).length := hq _ (by simp)
      have hb' : getB m.bl i = some ⟨.pop (u32s (ints cs)), 30, w⟩ := by rw [← e1]; exact hb
      intro A hs
      exact out_con e2 hb' A ⟨fun p hp => by
        simp only [List.mem_cons, List.not_mem_nil, or_false] at hp
        rcases hp with rfl | rfl | rfl
        · exact hq _ (by simp)
        · exact hq _ (by simp)
        · exact hq _ (by simp), hs⟩
    · cases h
  · rename_i ts r a; cases h
    refine Con.asked fun hq => Con.args (l' := [tkS ts, u32 r.den, u32 a.den]) (fun R vs ha => by
      match vs, ha with
      | [v, w, z], ha => exact ⟨ha.1, ha.2.1, ha.2.2.1, trivial⟩) ?_
    intro A hs
    exact reads_con r.den a.den m A ⟨fun p hp => hq p hp, hs⟩
  · rename_i ts r a; cases h
    refine Con.asked fun hq => Con.args (l' := [tkS ts, u32 r.den, u32 a.den]) (fun R vs ha => by
      match vs, ha with
      | [v, w, z], ha => exact ⟨ha.1, ha.2.1, ha.2.2.1, trivial⟩) ?_
    intro A hs
    exact writes_con r.den a.den m A ⟨fun p hp => hq p hp, hs⟩
  · rename_i ts a; cases h
    refine Con.asked fun hq => Con.args (l' := [tkS ts, u32 a.den]) (fun R vs ha => by
      match vs, ha with
      | [v, w], ha => exact ⟨ha.1, ha.2.1, trivial⟩) ?_
    intro A hs
    exact get_con a.den m A ⟨fun p hp => hq p hp, hs⟩
  · rename_i ts r b t' mu a; cases h
    refine Con.asked fun hq => Con.args (l' := [tkS ts, tokS r.den b.den t'.den mu.den a.den]) (fun R vs ha => by
      match vs, ha with
      | [v, w], ⟨h0, ⟨cs, e, h1⟩, _⟩ =>
        refine ⟨h0, ⟨cs, e, ?_⟩, trivial⟩
        have h1 : All2 (SC.ok R) [.f (.int .u32 r), .f (.int .u8 b), .f (.int .u8 t'), .f (.bool mu), .f (.int .u32 a)] cs.toList := h1
        show All2 (SC.ok R) [.f (.int .u32 (.o r.den)), .f (.int .u8 (.o b.den)), .f (.int .u8 (.o t'.den)), .f (.bool (.o mu.den)), .f (.int .u32 (.o a.den))] cs.toList
        revert h1
        generalize cs.toList = l
        intro h1
        match l, h1 with
        | [a0, a1, a2, a3, a4], h1 => exact h1) ?_
    intro A hs
    exact may_con r.den b.den t'.den mu.den a.den m A ⟨fun p hp => hq p hp, hs⟩
  · exact conM_ok0 n (conM_26 n) _ _ _ _ h
theorem ER_ok (n : Nat) : EnvOk (ER n) := EnvOk.with E0_ok _ _ (conU_ok n)
section
variable {ts : Array Value}
/-- Of those that are good, those that are below one. -/
def goneL (ts : Array Value) (n : Nat) (h : Int) : List Int := (issued (bkT ts)).filter fun x => getI x (meetL ts n h []) == 1
def gonePre (ts : Array Value) (n : Nat) (h : Int) (i : Nat) : List Int := ((issued (bkT ts)).take i).filter fun x => getI x (meetL ts n h []) == 1
theorem gonePre_succ {n : Nat} {h : Int} {i : Nat} (hi : i < (issued (bkT ts)).length) : gonePre ts n h (i + 1) = if (getI ((issued (bkT ts)).getD i 0) (meetL ts n h []) == 1) = true then gonePre ts n h i ++ [(issued (bkT ts)).getD i 0] else gonePre ts n h i := by
  unfold gonePre
  rw [List.take_add_one, List.getElem?_eq_getElem hi, List.getD_eq_getElem?_getD, List.getElem?_eq_getElem hi, List.filter_append]
  simp only [Option.toList_some, Option.getD_some]
  rw [List.filter_cons, List.filter_nil]
  split <;> simp
theorem gonePre_le {n : Nat} {h : Int} (i : Nat) : (gonePre ts n h i).length ≤ i := by
  unfold gonePre
  exact Nat.le_trans (List.length_filter_le _ _) (by rw [List.length_take]; omega)
theorem gonePre_all {n : Nat} {h : Int} : gonePre ts n h (issued (bkT ts)).length = goneL ts n h := by
  unfold gonePre goneL
  rw [List.take_length]
theorem u32s_one (x : Int) : #[Value.int .u32 x] = u32s [x] := rfl
theorem iss_at {i : Nat} (hi : i < (issued (bkT ts)).length) : (u32s (issued (bkT ts)))[i]? = some (.int .u32 ((issued (bkT ts)).getD i 0)) := u32s_at hi
theorem rZS_good {n : Nat} {A : SV → SMem → Prop} {k : Nat} {rs : Array Value} {gs : List (Int × Int)} {QN : Int → Array Value → Prop} {QS : Int → Array Value → Nat → Array Value → Prop} {QE : Array Value → Nat → Array Value → Prop} {QX : Prop} {fs : List SFr} {m : SMem}
    (hn : ∀ i z, QN i z → Good Try.prog A 0 (rN_F ts k rs gs i z) (rN_M ts k rs gs i z)) (hs : ∀ i z q cs, QS i z q cs → Good Try.prog A 0 (rS_F ts k rs gs i z q cs) (rS_M ts k rs gs i z q cs)) (he : ∀ z q cs, QE z q cs → Good Try.prog A 0 (eS_F ts z q cs) (eS_M ts z q cs)) (hx : ¬ QX)
    (hb : rG ts k rs gs QN QS QE QX fs m) : Good Try.prog A 0 fs m := by
  unfold rG at hb
  split at hb
  · split at hb
    · split at hb
      · exact eS_good he hb
      · exact absurd hb hx
    · exact hb.elim
  · unfold rZS at hb
    split at hb
    · split at hb
      · exact rS_good hs hb
      · exact rN_good hn hb
    · exact hb.elim
theorem gone_hs (h : TsOk ts) {n : Nat} {x : Int} : HsOk (goneL ts n x) := by
  intro y hy
  have hm := (List.mem_filter.1 hy).1
  have hg := (issued_mem h.bk).1 hm
  obtain ⟨s1, s2, s3, s4, s5, s6, s7, s8⟩ := good_slot h hg
  exact ⟨s7, s2⟩
theorem gone_len {n : Nat} {x : Int} : (goneL ts n x).length ≤ 32 := Nat.le_trans (List.length_filter_le _ _) (issL_le 32)
theorem eS_ok {n : Nat} (h : TsOk ts) {x : Int} {zz : Array Value} (hz : zz.size = 144) : Good Try.prog (rOk (outT ts (goneL ts n x) (goneL ts n x).length) (goneL ts n x).length (u32s (goneL ts n x))) 0 (eS_F ts zz (goneL ts n x).length (u32s (goneL ts n x))) (eS_M ts zz (goneL ts n x).length (u32s (goneL ts n x))) := by
  refine past_vc (ER_ok n) 1000 (rt4 n ts zz (goneL ts n x).length (u32s (goneL ts n x)) _ _ _) ?_ (fun _ _ h => h) (fun fs m hb => hb.elim)
  have ho := (outT_ok h (gone_hs (n := n) (x := x) h) (goneL ts n x).length (Nat.le_refl _)).sz
  have hl : ∀ y, List.Mem y (goneL ts n x) → (0 ≤ y ∧ y < 4294967296) ∧ slotI y < 16 := fun y hy => gone_hs h y hy
  have hlen := gone_len (ts := ts) (n := n) (x := x)
  simp only [ints_u32s, h.sz, ho, hz, and_true, true_and]
  exact ⟨h, hl, hlen⟩
theorem rS_ok {n : Nat} (h : TsOk ts) {x : Int} {zz : Array Value} (hz : zz.size = 144) : ∀ (k i : Nat), i + k + 1 = (issued (bkT ts)).length → Good Try.prog (rOk (outT ts (goneL ts n x) (goneL ts n x).length) (goneL ts n x).length (u32s (goneL ts n x))) 0 (rS_F ts (issued (bkT ts)).length (u32s (issued (bkT ts))) (meetL ts n x []) (i : Int) zz (gonePre ts n x i).length (u32s (gonePre ts n x i))) (rS_M ts (issued (bkT ts)).length (u32s (issued (bkT ts))) (meetL ts n x []) (i : Int) zz (gonePre ts n x i).length (u32s (gonePre ts n x i))) := by
  have hle : (issued (bkT ts)).length ≤ 32 := issL_le 32
  intro k
  induction k with
  | zero =>
    intro i hi
    refine past_vc (ER_ok n) 1000 (rt3 n ts _ _ _ (i : Int) zz _ _ _ _ _ (fun _ _ => False) (fun _ _ _ _ => False) (fun z q cs => z = zz ∧ q = (gonePre ts n x (i + 1)).length ∧ cs = u32s (gonePre ts n x (i + 1))) False) ?_ (fun _ _ h => h)
      (fun fs m hb => rZS_good (n := n) (fun _ _ h => h.elim) (fun _ _ _ _ h => h.elim) (fun z q cs ⟨e1, e2, e3⟩ => by
        rw [e1, e2, e3, show i + 1 = (issued (bkT ts)).length by omega, gonePre_all]; exact eS_ok h hz) (fun h => h) hb)
    have hi' : i < (issued (bkT ts)).length := by omega
    have hu := iss_at hi'
    have ei : ari .add .i64 (i : Int) 1 = ((i + 1 : Nat) : Int) := by rw [ari_add, i64_in' (by omega) (by omega)]; omega
    have d : decide (((i + 1 : Nat) : Int) < ((issued (bkT ts)).length : Int)) = false := decide_eq_false (by omega)
    have hp := gonePre_le (ts := ts) (n := n) (h := x) i
    have hs := gonePre_succ (n := n) (h := x) hi'
    cases c : getI ((issued (bkT ts)).getD i 0) (meetL ts n x []) == 1
    all_goals
      rw [c] at hs
      simp only [if_true, if_false, Bool.false_eq_true] at hs
      simp only [Nat.zero_add, Nat.mul_one, Int.toNat_natCast, intAt_of hu, c, ei, d, hs, u32s_size, u32s_app, List.length_append, List.length_cons, List.length_nil, true_implies, Bool.true_eq_false, Bool.false_eq_true, false_implies, and_true, true_and, rS_d0_ok, rN_d0_ok, eS_d0_ok]
      repeat' first | exact isI_of hu | exact rfl | exact trivial | omega | apply And.intro
  | succ k ih =>
    intro i hi
    refine past_vc (ER_ok n) 1000 (rt3 n ts _ _ _ (i : Int) zz _ _ _ _ _ (fun _ _ => False) (fun i' z q cs => i' = ((i + 1 : Nat) : Int) ∧ z = zz ∧ q = (gonePre ts n x (i + 1)).length ∧ cs = u32s (gonePre ts n x (i + 1))) (fun z q cs => False) False) ?_ (fun _ _ h => h)
      (fun fs m hb => rZS_good (n := n) (fun _ _ h => h.elim) (fun i' z q cs ⟨e0, e1, e2, e3⟩ => by rw [e0, e1, e2, e3]; exact ih (i + 1) (by omega)) (fun z q cs h => h.elim) (fun h => h) hb)
    have hi' : i < (issued (bkT ts)).length := by omega
    have hu := iss_at hi'
    have ei : ari .add .i64 (i : Int) 1 = ((i + 1 : Nat) : Int) := by rw [ari_add, i64_in' (by omega) (by omega)]; omega
    have d : decide (((i + 1 : Nat) : Int) < ((issued (bkT ts)).length : Int)) = true := decide_eq_true (by omega)
    have hp := gonePre_le (ts := ts) (n := n) (h := x) i
    have hs := gonePre_succ (n := n) (h := x) hi'
    cases c : getI ((issued (bkT ts)).getD i 0) (meetL ts n x []) == 1
    all_goals
      rw [c] at hs
      simp only [if_true, if_false, Bool.false_eq_true] at hs
      simp only [Nat.zero_add, Nat.mul_one, Int.toNat_natCast, intAt_of hu, c, ei, d, hs, u32s_size, u32s_app, List.length_append, List.length_cons, List.length_nil, true_implies, Bool.true_eq_false, Bool.false_eq_true, false_implies, and_true, true_and, rS_d0_ok, rN_d0_ok, eS_d0_ok]
      repeat' first | exact isI_of hu | exact rfl | exact trivial | omega | apply And.intro
theorem rN_ok {n : Nat} (h : TsOk ts) {x : Int} (hne : goneL ts n x ≠ []) {zz : Array Value} (hz : zz.size = 144) : ∀ (k i : Nat), i + k + 1 = (issued (bkT ts)).length → gonePre ts n x i = [] → Good Try.prog (rOk (outT ts (goneL ts n x) (goneL ts n x).length) (goneL ts n x).length (u32s (goneL ts n x))) 0 (rN_F ts (issued (bkT ts)).length (u32s (issued (bkT ts))) (meetL ts n x []) (i : Int) zz) (rN_M ts (issued (bkT ts)).length (u32s (issued (bkT ts))) (meetL ts n x []) (i : Int) zz) := by
  have hle : (issued (bkT ts)).length ≤ 32 := issL_le 32
  intro k
  induction k with
  | zero =>
    intro i hi h0
    refine past_vc (ER_ok n) 1000 (rt2 n ts _ _ _ (i : Int) zz _ _ _ (fun _ _ => False) (fun _ _ _ _ => False) (fun z q cs => z = zz ∧ q = (gonePre ts n x (i + 1)).length ∧ cs = u32s (gonePre ts n x (i + 1))) False) ?_ (fun _ _ h => h)
      (fun fs m hb => rZS_good (n := n) (fun _ _ h => h.elim) (fun _ _ _ _ h => h.elim) (fun z q cs ⟨e1, e2, e3⟩ => by
        rw [e1, e2, e3, show i + 1 = (issued (bkT ts)).length by omega, gonePre_all]; exact eS_ok h hz) (fun h => h) hb)
    have hi' : i < (issued (bkT ts)).length := by omega
    have hu := iss_at hi'
    have ei : ari .add .i64 (i : Int) 1 = ((i + 1 : Nat) : Int) := by rw [ari_add, i64_in' (by omega) (by omega)]; omega
    have d : decide (((i + 1 : Nat) : Int) < ((issued (bkT ts)).length : Int)) = false := decide_eq_false (by omega)
    have hs := gonePre_succ (n := n) (h := x) hi'
    rw [h0] at hs
    cases c : getI ((issued (bkT ts)).getD i 0) (meetL ts n x []) == 1
    · rw [c] at hs
      simp only [if_true, if_false, Bool.false_eq_true] at hs
      rw [show i + 1 = (issued (bkT ts)).length by omega, gonePre_all] at hs
      exact absurd hs hne
    · rw [c] at hs
      simp only [if_true] at hs
      simp only [Nat.zero_add, Nat.mul_one, Int.toNat_natCast, intAt_of hu, c, ei, d, hs, u32s_one, List.nil_append, List.length_cons, List.length_nil, true_implies, Bool.true_eq_false, Bool.false_eq_true, false_implies, and_true, true_and, rS_d0_ok, rN_d0_ok, eS_d0_ok]
      repeat' first | exact isI_of hu | exact rfl | exact trivial | omega | apply And.intro
  | succ k ih =>
    intro i hi h0
    refine past_vc (ER_ok n) 1000 (rt2 n ts _ _ _ (i : Int) zz _ _ _ (fun i' z => i' = ((i + 1 : Nat) : Int) ∧ z = zz ∧ gonePre ts n x (i + 1) = []) (fun i' z q cs => i' = ((i + 1 : Nat) : Int) ∧ z = zz ∧ q = (gonePre ts n x (i + 1)).length ∧ cs = u32s (gonePre ts n x (i + 1))) (fun z q cs => False) False) ?_ (fun _ _ h => h)
      (fun fs m hb => rZS_good (n := n) (fun i' z ⟨e0, e1, e2⟩ => by rw [e0, e1]; exact ih (i + 1) (by omega) e2) (fun i' z q cs ⟨e0, e1, e2, e3⟩ => by rw [e0, e1, e2, e3]; exact rS_ok h hz k (i + 1) (by omega)) (fun z q cs h => h.elim) (fun h => h) hb)
    have hi' : i < (issued (bkT ts)).length := by omega
    have hu := iss_at hi'
    have ei : ari .add .i64 (i : Int) 1 = ((i + 1 : Nat) : Int) := by rw [ari_add, i64_in' (by omega) (by omega)]; omega
    have d : decide (((i + 1 : Nat) : Int) < ((issued (bkT ts)).length : Int)) = true := decide_eq_true (by omega)
    have hs := gonePre_succ (n := n) (h := x) hi'
    rw [h0] at hs
    cases c : getI ((issued (bkT ts)).getD i 0) (meetL ts n x []) == 1
    all_goals
      rw [c] at hs
      simp only [if_true, if_false, Bool.false_eq_true] at hs
      simp only [Nat.zero_add, Nat.mul_one, Int.toNat_natCast, intAt_of hu, c, ei, d, hs, u32s_one, List.nil_append, List.length_cons, List.length_nil, true_implies, Bool.true_eq_false, Bool.false_eq_true, false_implies, and_true, true_and, rS_d0_ok, rN_d0_ok, eS_d0_ok]
      repeat' first | exact isI_of hu | exact rfl | exact trivial | omega | apply And.intro
/-! Who is below one. -/
inductive Below1 (ts : Array Value) : Int → Int → Prop
  | self (h : Int) : Below1 ts h h
  | kid {h k x : Int} : k ∈ kidsT ts h → Below1 ts k x → Below1 ts h x
theorem meet_fold {n : Nat} (ih : ∀ (k : Int) (gs : List (Int × Int)) (x : Int), Deep ts n k → (lookI x (meetL ts n k gs) = some 1 ↔ lookI x gs = some 1 ∨ Below1 ts k x)) : ∀ (l : List Int), (∀ k ∈ l, Deep ts n k) → ∀ (g : List (Int × Int)) (x : Int), lookI x (l.foldl (fun g k => meetL ts n k g) g) = some 1 ↔ lookI x g = some 1 ∨ ∃ k ∈ l, Below1 ts k x
  | [], _, g, x => ⟨.inl, fun h => h.resolve_right fun ⟨_, h, _⟩ => by cases h⟩
  | k :: l, hd, g, x => by
    rw [List.foldl_cons, meet_fold ih l (fun k hk => hd k (List.mem_cons_of_mem _ hk)) (meetL ts n k g) x, ih k g x (hd k (List.mem_cons_self ..))]
    constructor
    · rintro ((h | h) | ⟨k', h1, h2⟩)
      · exact .inl h
      · exact .inr ⟨k, List.mem_cons_self .., h⟩
      · exact .inr ⟨k', List.mem_cons_of_mem _ h1, h2⟩
    · rintro (h | ⟨k', h1, h2⟩)
      · exact .inl (.inl h)
      · rcases List.mem_cons.1 h1 with rfl | h1
        · exact .inl (.inr h2)
        · exact .inr ⟨k', h1, h2⟩
theorem meet_has : ∀ (n : Nat) (h : Int) (gs : List (Int × Int)) (x : Int), Deep ts n h → (lookI x (meetL ts n h gs) = some 1 ↔ lookI x gs = some 1 ∨ Below1 ts h x)
  | 0, _, _, _, hd => hd.elim
  | n + 1, h, gs, x, hd => by
    unfold meetL
    rw [meet_fold (fun k gs x hk => meet_has n k gs x hk) (kidsT ts h) hd, look_ins]
    constructor
    · rintro (e | ⟨k, h1, h2⟩)
      · split at e
        · rename_i c; rw [c]; exact .inr (.self h)
        · exact .inl e
      · exact .inr (.kid h1 h2)
    · rintro (e | e)
      · by_cases c : x = h
        · exact .inl (if_pos c)
        · exact .inl ((if_neg c).trans e)
      · cases e with
        | self => exact .inl (if_pos rfl)
        | kid h1 h2 => exact .inr ⟨_, h1, h2⟩
theorem gone_mem (h : TsOk ts) {n : Nat} {x y : Int} (hd : Deep ts n x) : y ∈ goneL ts n x ↔ goodB (bkT ts) y = true ∧ Below1 ts x y := by
  have hm := meet_has n x [] y hd
  unfold goneL
  rw [List.mem_filter, issued_mem h.bk]
  have e : (getI y (meetL ts n x []) == 1) = true ↔ lookI y (meetL ts n x []) = some 1 := by
    unfold getI
    cases lookI y (meetL ts n x []) with
    | none => exact ⟨fun h => (by cases h), fun h => (by cases h)⟩
    | some v => simp
  rw [e, hm]
  exact ⟨fun ⟨a, b⟩ => ⟨a, b.resolve_left fun e => by cases e⟩, fun ⟨a, b⟩ => ⟨a, .inr b⟩⟩
theorem return_good {n : Nat} (h : TsOk ts) {x : Int} (hx : inH x) (hg : goodB (bkT ts) x = true) (hd : Deep ts n x) :
    Good Try.prog (rOk (outT ts (goneL ts n x) (goneL ts n x).length) (goneL ts n x).length (u32s (goneL ts n x))) 0 [callFr 7 Try.f7.ntmps [tkS ts, u32 x] (Try.f7.body.getD .skip)] e0M := by
  have hxm : x ∈ issued (bkT ts) := (issued_mem h.bk).2 hg
  have hne : goneL ts n x ≠ [] := by
    intro e
    have : x ∈ goneL ts n x := (gone_mem h hd).2 ⟨hg, .self x⟩
    rw [e] at this
    cases this
  have hlen : 0 < (issued (bkT ts)).length := List.length_pos_of_mem hxm
  have hbk : BkOk (bkT ts) := h.bk
  have rA_ok : ∀ zz : Array Value, zz.size = 144 → Good Try.prog (rOk (outT ts (goneL ts n x) (goneL ts n x).length) (goneL ts n x).length (u32s (goneL ts n x))) 0 (rA_F ts x [] zz) (rA_M ts x [] zz) := by
    intro zz hz
    refine past_vc (ER_ok n) 1000 (rt1 n ts x [] (meetL ts n x []) zz _ _ _ (issued (bkT ts)).length (u32s (issued (bkT ts))) (fun i z => i = ((0 : Nat) : Int) ∧ z = zz) (fun _ _ _ _ => False) (fun _ _ _ => False) False) ?_ (fun _ _ h => h)
      (fun fs m hb => rZS_good (n := n) (fun i z ⟨e0, e1⟩ => by rw [e0, e1]; exact rN_ok h hne hz ((issued (bkT ts)).length - 1) 0 (by omega) rfl) (fun _ _ _ _ h => h.elim) (fun _ _ _ h => h.elim) (fun h => h) hb)
    have c : decide ((issued (bkT ts)).length = 0) = false := decide_eq_false (by omega)
    have d : decide ((0 : Int) < ((issued (bkT ts)).length : Int)) = true := decide_eq_true (by omega)
    simp only [Nat.zero_add, bk_fold, c, d, h.sz, true_implies, Bool.true_eq_false, Bool.false_eq_true, false_implies, and_true, true_and, rN_d0_ok]
    repeat' first | exact h | exact hx.1 | exact hx.2 | exact hd | exact hbk | exact rfl | exact trivial | omega | apply And.intro
  have start : ∀ A : SV → SMem → Prop, (∀ zz : Array Value, zz.size = 144 → Good Try.prog A 0 (rA_F ts x [] zz) (rA_M ts x [] zz)) → Good Try.prog A 0 [callFr 7 Try.f7.ntmps [tkS ts, u32 x] (Try.f7.body.getD .skip)] e0M := by
    intro A hA
    refine run_vc (ER_ok n) 1000 (rt0 n ts x False ts (fun g z => g = [] ∧ z.size = 144 ∧ goodB (bkT ts) x = true)) ?_ (fun s m h => ?_) (fun fs m hb => rA_good (fun g z ⟨e0, e1, _⟩ => by rw [e0]; exact hA z e1) hb)
    · simp only [Nat.zero_add, bk_fold, hg, h.sz, List.map_nil, Bool.not_true, Bool.not_false, true_implies, Bool.true_eq_false, Bool.false_eq_true, false_implies, and_true, true_and, rA_d0_ok]
      repeat' first | exact hbk | exact hx.1 | exact hx.2 | exact rfl | exact trivial | omega | apply And.intro
    · unfold rBad at h
      split at h
      · exact h.1.elim
      · exact h.elim
  exact start _ rA_ok
theorem return_bad {n : Nat} (h : TsOk ts) {x : Int} (hx : inH x) (hg : goodB (bkT ts) x = false) :
    Good Try.prog (rBad True ts) 0 [callFr 7 Try.f7.ntmps [tkS ts, u32 x] (Try.f7.body.getD .skip)] e0M := by
  have hbk : BkOk (bkT ts) := h.bk
  refine run_vc (ER_ok n) 1000 (rt0 n ts x True ts (fun g z => False)) ?_ (fun s m h => h) (fun fs m hb => rA_good (fun g z hf => hf.elim) hb)
  simp only [Nat.zero_add, bk_fold, hg, h.sz, List.map_nil, Bool.not_true, Bool.not_false, true_implies, Bool.true_eq_false, Bool.false_eq_true, false_implies, and_true, true_and, rA_d0_ok]
  repeat' first | exact hbk | exact hx.1 | exact hx.2 | exact rfl | exact trivial | omega | apply And.intro
theorem fn7 : E0.fn 7 = some Try.f7 := by kernel_rfl
theorem body7 : Try.f7.body = some (Try.f7.body.getD .skip) := by kernel_rfl
/-- How deep it goes below one. -/
noncomputable def depN (ts : Array Value) (x : Int) : Nat := by
  classical
  exact if h : ∃ n, Deep ts n x then h.choose else 0
theorem depN_ok {x : Int} (h : ∃ n, Deep ts n x) : Deep ts (depN ts x) x := by
  unfold depN
  rw [dif_pos h]
  exact h.choose_spec
/-- What Return leaves, what it tells. -/
noncomputable def retL (ts : Array Value) (x : Int) : List Int := goneL ts (depN ts x) x
noncomputable def retT (ts : Array Value) (x : Int) : Array Value := outT ts (retL ts x) (retL ts x).length
noncomputable def retTree (ts : Array Value) (x : Int) (m : SMem) : Tree :=
  .br (goodB (bkT ts) x) (.need [∃ n, Deep ts n x] (.ret (.tup [.agg (.op (retT ts x)), .c (.f (.slice m.next (.l 0) (.o (retL ts x).length) (.full 1))), .c (.f (.int .i64 (.l 0)))]) (m.new (.pop (u32s (retL ts x))) 30)))
    (.ret (.tup [.agg (.op ts), .c (.f (.lit (.slice none 0 0))), .c (.f (.int .i64 (.l 4)))]) m)
theorem return_con (x : Int) (m : SMem) : Con E0 7 [tkS ts, u32 x] m (.need [TsOk ts, inH x] (retTree ts x m)) := by
  refine Con.asked fun hq => ?_
  have h : TsOk ts := hq _ (by simp)
  have hx : inH x := hq _ (by simp)
  refine Con.two (fun hg => Con.asked fun hq' => ?_) (fun hg => ?_)
  · have hd := depN_ok (hq' _ (List.mem_cons_self ..))
    intro A hA
    refine ⟨Try.f7, fn7, by rw [body7]; rfl, fun n0 F w0 w R args hl hR => ?_⟩
    refine (answers_of_good (m := e0M) (E0_ok.fns _ _ fn7).1 body7 (return_good h hx hg hd) (ok_anys (by kernel_rfl) hl) hR.none).mono ?_
    rintro v w' ⟨s, m', R', hs, hX, hR', hv⟩
    unfold rOk at hs
    split at hs
    · rename_i o' id nn e
      split at hs
      · rename_i ds ty hb0
        obtain ⟨rfl, rfl, rfl, rfl, he⟩ := hs
        obtain ⟨gl, cs, fz, e1, e2, e3, e4, e5⟩ := hR'.blk id _ hb0
        obtain ⟨e6, ez⟩ := e5 rfl
        have e7 : w.heap.size ≤ gl.b := e6.resolve_right fun x => x
        obtain ⟨R2, k1, k2, k3⟩ := hR.grow hR'.fr.to e7 (hR'.lt id gl e1) e2 e3 (free_ok (R' := R) (a := .pop _) rfl e4) ez
        obtain ⟨vs, rfl, hv⟩ := hv
        match hvs : vs.toList, hv with
        | [a, b, c], hv =>
          obtain ⟨ha, ⟨g, cp, f1, rfl, f2, f3⟩, hy, _⟩ := hv
          rw [e1] at f1
          cases f1
          refine ⟨_, _, R2, hA, k1, k3, vs, rfl, ?_⟩
          rw [hvs]
          refine ⟨ha, ⟨gl, cp, k2, rfl, f2, f3⟩, ?_, trivial⟩
          have hy : c = .int .i64 e.den := hy
          rw [hy, he]; rfl
      · exact hs.elim
    · exact hs.elim
  · intro A hA
    refine ⟨Try.f7, fn7, by rw [body7]; rfl, fun n0 F w0 w R args hl hR => ?_⟩
    refine (answers_of_good (m := e0M) (E0_ok.fns _ _ fn7).1 body7 (return_bad (n := 0) h hx hg) (ok_anys (by kernel_rfl) hl) hR.none).mono ?_
    rintro v w' ⟨s, m', R', hs, hX, hR', hv⟩
    unfold rBad at hs
    split at hs
    · rename_i o' e
      obtain ⟨_, rfl, he⟩ := hs
      refine ⟨_, _, R, hA, ⟨fun _ _ h => h, fun _ _ h => .inl h, hX.2.2.1, Nat.le_refl _⟩, hR.step hR'.fr.to, ?_⟩
      obtain ⟨vs, rfl, hv⟩ := hv
      match hvs : vs.toList, hv with
      | [a, b, c], hv =>
        obtain ⟨ha, hb, hy, _⟩ := hv
        refine ⟨vs, rfl, ?_⟩
        rw [hvs]
        refine ⟨ha, hb, ?_, trivial⟩
        have hy : c = .int .i64 e.den := hy
        rw [hy, he]; rfl
    · exact hs.elim
end
end Go.Proofs.Ytnjmockpdmchcaa
/- Of token: Lend, Clear: what they answer. No condition. -/
namespace Go.Proofs.Ytnjmockpdmchcaa
noncomputable section
def EL0 : Env := ⟨Try.prog, fnOf, conU 0, fun _ _ _ => false⟩
end
theorem EL0_ok : EnvOk EL0 := EnvOk.with E0_ok _ _ (conU_ok 0)
end Go.Proofs.Ytnjmockpdmchcaa
/- Of token: Lend, Clear, as propositions. -/
namespace Go.Proofs.Ytnjmockpdmchcaa
set_option maxRecDepth 100000
theorem ln0 (ts : Array Value) (r b t : Int) (mu : Bool) (a : Int) (o : Array Value) (h e : Int) : (run EL0 1000 0 [callFr 12 Try.f12.ntmps [tkS ts, tokS r b t mu a] (Try.f12.body.getD .skip)] e0M).vc (retOk 0 [] (.tup [.agg (.op o), .c (.f (.int .u32 (.o h))), .c (.f (.int .i64 (.o e)))]) e0M) (fun _ _ => False) =
    ((Array.size ts = (144 : Nat) ∧ True) ∧ (TsOk ts ∧ ((0 : Int) ≤ a ∧ a < (4294967296 : Int)) ∧ True) ∧ ((mayE ts r b t mu a != (0 : Int)) = true → (Array.size ts = (144 : Nat) ∧ True) ∧ (Array.size ts = (144 : Nat) ∧ Array.size ts = (144 : Nat) ∧ True) ∧ (Array.size ts = (144 : Nat) ∧ True) ∧ o = ts ∧ h = (0 : Int) ∧ e = mayE ts r b t mu a ∧ True) ∧ ((mayE ts r b t mu a != (0 : Int)) = false → ((64 : Nat) ≤ Array.size ts ∧ True) ∧ (BkOk (Array.extract ts (0 : Nat) (64 : Nat)) ∧ True) ∧ (Array.size (issueB (Array.extract ts (0 : Nat) (64 : Nat))) = (64 : Nat) ∧ Array.size (issueB (Array.extract ts (0 : Nat) (64 : Nat))) = (64 : Nat) ∧ True) ∧ (((0 : Int) ≤ issueI (Array.extract ts (0 : Nat) (64 : Nat)) ∧ issueI (Array.extract ts (0 : Nat) (64 : Nat)) < (4294967296 : Int)) ∧ True) ∧ (((!issueOk (Array.extract ts (0 : Nat) (64 : Nat))) == false) = true → (decide (slotI (issueI (Array.extract ts (0 : Nat) (64 : Nat))) ≥ (16 : Int)) = true → (Array.size ts = (144 : Nat) ∧ True) ∧ (Array.size ts = (144 : Nat) ∧ Array.size ts = (144 : Nat) ∧ True) ∧ (Array.size ts = (144 : Nat) ∧ True) ∧ o = ts ∧ h = (0 : Int) ∧ e = (7 : Int) ∧ True) ∧ (decide (slotI (issueI (Array.extract ts (0 : Nat) (64 : Nat))) ≥ (16 : Int)) = false → (Array.size (issueB (Array.extract ts (0 : Nat) (64 : Nat))) = (64 : Nat) ∧ True) ∧ (Array.size (issueB (Array.extract ts (0 : Nat) (64 : Nat))) = (64 : Nat) ∧ (0 : Nat) + Array.size (issueB (Array.extract ts (0 : Nat) (64 : Nat))) ≤ Array.size ts ∧ True) ∧ (((0 : Int) ≤ slotI (issueI (Array.extract ts (0 : Nat) (64 : Nat))) ∧ slotI (issueI (Array.extract ts (0 : Nat) (64 : Nat))) < (16 : Int)) ∧ True) ∧ ((64 : Nat) + Int.toNat (slotI (issueI (Array.extract ts (0 : Nat) (64 : Nat)))) * 5 + List.length [Value.int IntKind.u32 r, Value.int IntKind.u8 b, Value.int IntKind.u8 t, Value.bool mu, Value.int IntKind.u32 a] ≤ Array.size (putAt ts (0 : Nat) (Array.toList (issueB (Array.extract ts (0 : Nat) (64 : Nat))))) ∧ True) ∧ (Array.size (putAt (putAt ts (0 : Nat) (Array.toList (issueB (Array.extract ts (0 : Nat) (64 : Nat))))) ((64 : Nat) + Int.toNat (slotI (issueI (Array.extract ts (0 : Nat) (64 : Nat)))) * 5) [Value.int IntKind.u32 r, Value.int IntKind.u8 b, Value.int IntKind.u8 t, Value.bool mu, Value.int IntKind.u32 a]) = (144 : Nat) ∧ True) ∧ (Array.size (putAt (putAt ts (0 : Nat) (Array.toList (issueB (Array.extract ts (0 : Nat) (64 : Nat))))) ((64 : Nat) + Int.toNat (slotI (issueI (Array.extract ts (0 : Nat) (64 : Nat)))) * 5) [Value.int IntKind.u32 r, Value.int IntKind.u8 b, Value.int IntKind.u8 t, Value.bool mu, Value.int IntKind.u32 a]) = (144 : Nat) ∧ Array.size (putAt (putAt ts (0 : Nat) (Array.toList (issueB (Array.extract ts (0 : Nat) (64 : Nat))))) ((64 : Nat) + Int.toNat (slotI (issueI (Array.extract ts (0 : Nat) (64 : Nat)))) * 5) [Value.int IntKind.u32 r, Value.int IntKind.u8 b, Value.int IntKind.u8 t, Value.bool mu, Value.int IntKind.u32 a]) = (144 : Nat) ∧ True) ∧ (Array.size (putAt (putAt ts (0 : Nat) (Array.toList (issueB (Array.extract ts (0 : Nat) (64 : Nat))))) ((64 : Nat) + Int.toNat (slotI (issueI (Array.extract ts (0 : Nat) (64 : Nat)))) * 5) [Value.int IntKind.u32 r, Value.int IntKind.u8 b, Value.int IntKind.u8 t, Value.bool mu, Value.int IntKind.u32 a]) = (144 : Nat) ∧ True) ∧ o = putAt (putAt ts (0 : Nat) (Array.toList (issueB (Array.extract ts (0 : Nat) (64 : Nat))))) ((64 : Nat) + Int.toNat (slotI (issueI (Array.extract ts (0 : Nat) (64 : Nat)))) * 5) [Value.int IntKind.u32 r, Value.int IntKind.u8 b, Value.int IntKind.u8 t, Value.bool mu, Value.int IntKind.u32 a] ∧ h = issueI (Array.extract ts (0 : Nat) (64 : Nat)) ∧ e = (0 : Int) ∧ True)) ∧ (((!issueOk (Array.extract ts (0 : Nat) (64 : Nat))) == false) = false → (Array.size ts = (144 : Nat) ∧ True) ∧ (Array.size ts = (144 : Nat) ∧ Array.size ts = (144 : Nat) ∧ True) ∧ (Array.size ts = (144 : Nat) ∧ True) ∧ o = ts ∧ h = (0 : Int) ∧ e = (7 : Int) ∧ True))) := by kernel_rfl
theorem cl0 (ts : Array Value) (r : Int) (o : Array Value) : (run EL0 1000 0 [callFr 10 Try.f10.ntmps [tkS ts, u32 r] (Try.f10.body.getD .skip)] e0M).vc (retOk 0 [] (tkS o) e0M) (fun _ _ => False) =
    ((Array.size ts = (144 : Nat) ∧ True) ∧ (Array.size ts = (144 : Nat) ∧ True) ∧ (Array.size ts = (144 : Nat) ∧ True) ∧ (TsOk ts ∧ True) ∧ (decide (List.length (whL (bkT ts) (aP ts r) (16 : Nat)) = (0 : Nat)) = true → (TsOk ts ∧ True) ∧ (Array.size ts = (144 : Nat) ∧ Array.size ts = (144 : Nat) ∧ True) ∧ (Array.size ts = (144 : Nat) ∧ True) ∧ o = ts ∧ True) ∧ (decide (List.length (whL (bkT ts) (aP ts r) (16 : Nat)) = (0 : Nat)) = false → (TsOk ts ∧ (∀ (x : Int), List.Mem x (ints (u32s (whL (bkT ts) (aP ts r) (16 : Nat)))) → ((0 : Int) ≤ x ∧ x < (4294967296 : Int)) ∧ slotI x < (16 : Int)) ∧ List.length (ints (u32s (whL (bkT ts) (aP ts r) (16 : Nat)))) ≤ (32 : Nat) ∧ u32s (whL (bkT ts) (aP ts r) (16 : Nat)) = u32s (ints (u32s (whL (bkT ts) (aP ts r) (16 : Nat)))) ∧ List.length (whL (bkT ts) (aP ts r) (16 : Nat)) = List.length (ints (u32s (whL (bkT ts) (aP ts r) (16 : Nat)))) ∧ True) ∧ (Array.size (outT ts (ints (u32s (whL (bkT ts) (aP ts r) (16 : Nat)))) (List.length (ints (u32s (whL (bkT ts) (aP ts r) (16 : Nat)))))) = (144 : Nat) ∧ Array.size (outT ts (ints (u32s (whL (bkT ts) (aP ts r) (16 : Nat)))) (List.length (ints (u32s (whL (bkT ts) (aP ts r) (16 : Nat)))))) = (144 : Nat) ∧ True) ∧ (Array.size (outT ts (ints (u32s (whL (bkT ts) (aP ts r) (16 : Nat)))) (List.length (ints (u32s (whL (bkT ts) (aP ts r) (16 : Nat)))))) = (144 : Nat) ∧ True) ∧ o = outT ts (ints (u32s (whL (bkT ts) (aP ts r) (16 : Nat)))) (List.length (ints (u32s (whL (bkT ts) (aP ts r) (16 : Nat))))) ∧ True)) := by kernel_rfl
end Go.Proofs.Ytnjmockpdmchcaa
/- Of token: the contracts of Lend, Clear. No condition. -/
namespace Go.Proofs.Ytnjmockpdmchcaa
set_option maxRecDepth 100000
set_option linter.unusedSimpArgs false
set_option linter.unusedVariables false
section
variable {ts : Array Value}
def onL (ts : Array Value) (r : Int) : List Int := whL (bkT ts) (aP ts r) 16
def clearT (ts : Array Value) (r : Int) : Array Value := outT ts (onL ts r) (onL ts r).length
theorem wh_hs (h : TsOk ts) {p : Nat → Bool} : HsOk (whL (bkT ts) p 16) := by
  intro y hy
  obtain ⟨s1, s2, s3, s4, s5, s6, s7, s8⟩ := good_slot h (wh_good h hy).1
  exact ⟨s7, s2⟩
theorem clear_con (r : Int) (m : SMem) : Con E0 10 [tkS ts, u32 r] m (needs [TsOk ts] (.ret (tkS (clearT ts r)) m)) := by
  refine Con.pure E0_ok (by kernel_rfl : E0.fn 10 = some Try.f10) (by kernel_rfl : Try.f10.body = some (Try.f10.body.getD .skip)) (by kernel_rfl) (by kernel_rfl) fun hq => ?_
  have h : TsOk ts := hq _ (by simp)
  refine (Good.ret [] (run_vc EL0_ok 1000 (cl0 ts r (clearT ts r)) ?_ (fun s m h => h) fun _ _ h => h.elim)).mono fun _ _ h => h.1
  have ho := (outT_ok h (wh_hs (p := aP ts r) h) (onL ts r).length (Nat.le_refl _)).sz
  have hl : ∀ y, List.Mem y (onL ts r) → (0 ≤ y ∧ y < 4294967296) ∧ slotI y < 16 := fun y hy => wh_hs h y hy
  have hle : (onL ts r).length ≤ 16 := whL_le 16
  have e1 : whL (bkT ts) (aP ts r) 16 = onL ts r := rfl
  simp only [e1, ints_u32s]
  cases c : decide ((onL ts r).length = 0) with
  | true =>
    have c0 := List.eq_nil_of_length_eq_zero (of_decide_eq_true c)
    have e2 : clearT ts r = ts := by unfold clearT; rw [c0]; rfl
    simp only [c, e2, h.sz, true_implies, Bool.true_eq_false, Bool.false_eq_true, false_implies, and_true, true_and]
    exact ⟨h, h⟩
  | false =>
    have ho' : (outT ts (onL ts r) (onL ts r).length).size = 144 := ho
    simp only [c, ho', h.sz, true_implies, Bool.true_eq_false, Bool.false_eq_true, false_implies, and_true, true_and]
    exact ⟨h, ⟨h, hl, by omega⟩, rfl⟩
/-! Lend. -/
def lendOk (ts : Array Value) (r b t : Int) (mu : Bool) (a : Int) : Bool := decide (mayE ts r b t mu a = 0) && (issueOk (bkT ts) && decide (slotI (issueI (bkT ts)) < 16))
def newT (ts : Array Value) (r b t : Int) (mu : Bool) (a : Int) : Array Value := putAt (putAt ts 0 (issueB (bkT ts)).toList) (64 + sl (issueI (bkT ts)) * 5) [.int .u32 r, .int .u8 b, .int .u8 t, .bool mu, .int .u32 a]
def lendT (ts : Array Value) (r b t : Int) (mu : Bool) (a : Int) : Array Value := if lendOk ts r b t mu a = true then newT ts r b t mu a else ts
def lendI (ts : Array Value) (r b t : Int) (mu : Bool) (a : Int) : Int := if lendOk ts r b t mu a = true then issueI (bkT ts) else 0
def lendE (ts : Array Value) (r b t : Int) (mu : Bool) (a : Int) : Int := if mayE ts r b t mu a = 0 then (if lendOk ts r b t mu a = true then 0 else 7) else mayE ts r b t mu a
theorem issue_in (h : TsOk ts) : inH (issueI (bkT ts)) ∧ 0 ≤ slotI (issueI (bkT ts)) := by
  have h1 : inH (issueI (bkT ts)) := by
    rcases issue_cases (bs := bkT ts) with ⟨_, _, e, _⟩ | ⟨i, h1, _, _, e, _, _⟩
    · rw [e]; exact ⟨by decide, by decide⟩
    · rw [e]
      have := h.bk.ra i h1
      unfold inH nameI
      omega
  exact ⟨h1, (slotI_lt h1).1⟩
theorem lend_con (r b t : Int) (mu : Bool) (a : Int) (m : SMem) : Con E0 12 [tkS ts, tokS r b t mu a] m (needs [TsOk ts, inH a] (.ret (.tup [.agg (.op (lendT ts r b t mu a)), .c (.f (.int .u32 (.o (lendI ts r b t mu a)))), .c (.f (.int .i64 (.o (lendE ts r b t mu a))))]) m)) := by
  refine Con.pure E0_ok (by kernel_rfl : E0.fn 12 = some Try.f12) (by kernel_rfl : Try.f12.body = some (Try.f12.body.getD .skip)) (by kernel_rfl) (by kernel_rfl) fun hq => ?_
  have h : TsOk ts := hq _ (by simp)
  have ha : inH a := hq _ (by simp)
  have ha' : 0 ≤ a ∧ a < 4294967296 := ha
  refine (Good.ret [] (run_vc EL0_ok 1000 (ln0 ts r b t mu a (lendT ts r b t mu a) (lendI ts r b t mu a) (lendE ts r b t mu a)) ?_ (fun s m h => h) fun _ _ h => h.elim)).mono fun _ _ h => h.1
  have hs := h.sz
  have hbk : BkOk (bkT ts) := h.bk
  have hib := (issue_bk h.bk).sz
  obtain ⟨hi1, hi2⟩ := issue_in h
  have hi1' : 0 ≤ issueI (bkT ts) ∧ issueI (bkT ts) < 4294967296 := hi1
  by_cases hm : mayE ts r b t mu a = 0
  · have d0 : (mayE ts r b t mu a != 0) = false := by rw [hm]; rfl
    cases ho : issueOk (bkT ts) with
    | false =>
      have hk : lendOk ts r b t mu a = false := by unfold lendOk; rw [ho]; simp
      have e1 : lendT ts r b t mu a = ts := by unfold lendT; rw [hk]; rfl
      have e2 : lendI ts r b t mu a = 0 := by unfold lendI; rw [hk]; rfl
      have e3 : lendE ts r b t mu a = 7 := by unfold lendE; rw [if_pos hm, hk]; rfl
      simp only [bk_fold, d0, ho, e1, e2, e3, hs, hib, beqT, beqF, Bool.not_true, Bool.not_false, true_implies, Bool.true_eq_false, Bool.false_eq_true, false_implies, and_true, true_and]
      repeat' first | exact h | exact hbk | exact ha'.1 | exact ha'.2 | exact hi1'.1 | exact hi1'.2 | exact trivial | exact rfl | omega | apply And.intro
    | true =>
      by_cases c : slotI (issueI (bkT ts)) < 16
      · have d1 : decide (slotI (issueI (bkT ts)) ≥ 16) = false := decide_eq_false (by omega)
        have hk : lendOk ts r b t mu a = true := by unfold lendOk; rw [ho, hm, decide_eq_true c]; rfl
        have e1 : lendT ts r b t mu a = newT ts r b t mu a := by unfold lendT; rw [if_pos hk]
        have e2 : lendI ts r b t mu a = issueI (bkT ts) := by unfold lendI; rw [if_pos hk]
        have e3 : lendE ts r b t mu a = 0 := by unfold lendE; rw [if_pos hm, if_pos hk]
        have hl : (issueB (bkT ts)).toList.length = 64 := by simpa using hib
        obtain ⟨p1, p2, p3⟩ := put_bk (bs := issueB (bkT ts)) hs hib
        have hsl : (slotI (issueI (bkT ts))).toNat < 16 := by omega
        obtain ⟨q1, q2, q3⟩ := put_tk (q := (slotI (issueI (bkT ts))).toNat) (l := [.int .u32 r, .int .u8 b, .int .u8 t, .bool mu, .int .u32 a]) p1 hsl rfl
        have h5 : List.length [Value.int .u32 r, Value.int .u8 b, Value.int .u8 t, Value.bool mu, Value.int .u32 a] = 5 := rfl
        simp only [d0, (show decide (slotI (issueI (ts.extract 0 64)) ≥ 16) = false from d1)]
        simp only [bk_fold, d0, ho,  e1, e2, e3, hs, hib, p1, q1, h5, beqT, beqF, Bool.not_true, Bool.not_false, true_implies, Bool.true_eq_false, Bool.false_eq_true, false_implies, and_true, true_and]
        repeat' first | exact h | exact hbk | exact ha'.1 | exact ha'.2 | exact hi1'.1 | exact hi1'.2 | exact trivial | exact rfl | omega | apply And.intro
      · have d1 : decide (slotI (issueI (bkT ts)) ≥ 16) = true := decide_eq_true (by omega)
        have hk : lendOk ts r b t mu a = false := by unfold lendOk; rw [decide_eq_false c]; simp
        have e1 : lendT ts r b t mu a = ts := by unfold lendT; rw [hk]; rfl
        have e2 : lendI ts r b t mu a = 0 := by unfold lendI; rw [hk]; rfl
        have e3 : lendE ts r b t mu a = 7 := by unfold lendE; rw [if_pos hm, hk]; rfl
        simp only [d0, (show decide (slotI (issueI (ts.extract 0 64)) ≥ 16) = true from d1)]
        simp only [bk_fold, d0, ho, e1, e2, e3, hs, hib, beqT, beqF, Bool.not_true, Bool.not_false, true_implies, Bool.true_eq_false, Bool.false_eq_true, false_implies, and_true, true_and]
        repeat' first | exact h | exact hbk | exact ha'.1 | exact ha'.2 | exact hi1'.1 | exact hi1'.2 | exact trivial | exact rfl | omega | apply And.intro
  · have d0 : (mayE ts r b t mu a != 0) = true := bne_iff_ne.2 hm
    have hk : lendOk ts r b t mu a = false := by unfold lendOk; rw [decide_eq_false hm]; rfl
    have e1 : lendT ts r b t mu a = ts := by unfold lendT; rw [hk]; rfl
    have e2 : lendI ts r b t mu a = 0 := by unfold lendI; rw [hk]; rfl
    have e3 : lendE ts r b t mu a = mayE ts r b t mu a := by unfold lendE; rw [if_neg hm]
    simp only [d0, e1, e2, e3, hs, true_implies, Bool.true_eq_false, Bool.false_eq_true, false_implies, and_true, true_and]
    repeat' first | exact h | exact hbk | exact ha'.1 | exact ha'.2 | exact trivial | exact rfl | omega | apply And.intro
end
end Go.Proofs.Ytnjmockpdmchcaa
/- Of token: the closed test. No condition. -/
namespace Go.Proofs.Ytnjmockpdmchcaa
set_option maxRecDepth 1000000 in
theorem wakes_fast : (runC E0 200000 0 [callFr 5 Try.f5.ntmps [] (Try.f5.body.getD .skip)] ⟨0, .nil, []⟩).allTrue = true := by kernel_rfl
theorem wakes_true : (run E0 200000 0 [callFr 5 Try.f5.ntmps [] (Try.f5.body.getD .skip)] ⟨0, .nil, []⟩).allTrue = true := by
  rw [← runC_eq]
  exact wakes_fast
theorem wakes_fn : E0.fn 5 = some Try.f5 := by kernel_rfl
theorem wakes_body : Try.f5.body = some (Try.f5.body.getD .skip) := by kernel_rfl
theorem wakes_con (m : SMem) : Con E0 5 [] m (needs [] (.ret (sB (.l true)) m)) :=
  Con.pure E0_ok wakes_fn wakes_body (by kernel_rfl) (by kernel_rfl) fun _ => good_true E0_ok wakes_true
end Go.Proofs.Ytnjmockpdmchcaa
/- Of token: TokenOneWriter: the law's states. No condition. -/
namespace Go.Proofs.Ytnjmockpdmchcaa
set_option linter.unusedVariables false
noncomputable def acS (off n : Nat) : SV := .s (.c (.f (.slice 0 (.o off) (.o n) .any)))
noncomputable def eS : SV := .s (.c (.f .e0))
noncomputable def conL (g : FuncId) (l : List SV) (m : SMem) : Option Tree := match g, l with
  | 5, [] => some (.ret (sB (.l true)) m)
  | 7, [.s (.agg (.op ts)), .s (.c (.f (.int .u32 h)))] => some (.need [TsOk ts, inH h.den] (retTree ts h.den m))
  | 10, [.s (.agg (.op ts)), .s (.c (.f (.int .u32 r)))] => some (.need [TsOk ts] (.ret (tkS (clearT ts r.den)) m))
  | 12, [.s (.agg (.op ts)), .s (.agg (.ls [.f (.int .u32 r), .f (.int .u8 b), .f (.int .u8 t), .f (.bool mu), .f (.int .u32 a)]))] => some (.need [TsOk ts, inH a.den] (.ret (.tup [.agg (.op (lendT ts r.den b.den t.den mu.den a.den)), .c (.f (.int .u32 (.o (lendI ts r.den b.den t.den mu.den a.den)))), .c (.f (.int .i64 (.o (lendE ts r.den b.den t.den mu.den a.den))))]) m))
  | g, l => conU 0 g l m
noncomputable def EL : Env := ⟨Try.prog, fnOf, conL, haltAt [4005, 4017, 4020, 4029, 4036]⟩
noncomputable def EW : Env := ⟨Try.prog, fnOf, conL, haltAt []⟩
noncomputable def lA_d0 : List SIt := sekF Try.f4 5
noncomputable def lA_F (off : Nat) (n : Nat) (cs : Array Value) (ty : TypeId) (i : Int) (ts : Array Value) : List SFr := [frOf 4 Try.f4 [(0, acS off n), (3, ptr 1 (.l 0)), (4, i64 (.o i))] lA_d0]
noncomputable def lA_M (off : Nat) (n : Nat) (cs : Array Value) (ty : TypeId) (i : Int) (ts : Array Value) : SMem := mkM 2 [(0, ⟨.raw cs, ty, false⟩), (1, ⟨.op ts, 35, true⟩)]
noncomputable def lA_n (off : Nat) (n : Nat) (cs : Array Value) (ty : TypeId) (Q : Int → Array Value → Prop) (fs : List SFr) (m : SMem) : Prop := (match frNth fs 0 with | some f0 => (match rdI f0 4 with | some i => (match rdP f0 3 with | some p1 => (match rdA m p1 with | some ts => Q i ts ∧ subOk 1 [(1, p1)] (lA_F off n cs ty i ts) (lA_M off n cs ty i ts) fs m | none => False) | none => False) | none => False) | none => False)
noncomputable def lB_d0 : List SIt := sekF Try.f4 17
noncomputable def lB_F (off : Nat) (n : Nat) (cs : Array Value) (ty : TypeId) (i : Int) (ts : Array Value) : List SFr := [frOf 4 Try.f4 [(0, acS off n), (3, ptr 1 (.l 0)), (4, i64 (.o i))] lB_d0]
noncomputable def lB_M (off : Nat) (n : Nat) (cs : Array Value) (ty : TypeId) (i : Int) (ts : Array Value) : SMem := mkM 2 [(0, ⟨.raw cs, ty, false⟩), (1, ⟨.op ts, 35, true⟩)]
noncomputable def lB_n (off : Nat) (n : Nat) (cs : Array Value) (ty : TypeId) (Q : Int → Array Value → Prop) (fs : List SFr) (m : SMem) : Prop := (match frNth fs 0 with | some f0 => (match rdI f0 4 with | some i => (match rdP f0 3 with | some p1 => (match rdA m p1 with | some ts => Q i ts ∧ subOk 1 [(1, p1)] (lB_F off n cs ty i ts) (lB_M off n cs ty i ts) fs m | none => False) | none => False) | none => False) | none => False)
noncomputable def lC_d0 : List SIt := sekF Try.f4 20
noncomputable def lC_F (off : Nat) (n : Nat) (cs : Array Value) (ty : TypeId) (g : Int) (i : Int) (ts : Array Value) : List SFr := [frOf 4 Try.f4 [(0, acS off n), (3, ptr 1 (.l 0)), (4, i64 (.o i)), (8, .s (.c (.f (.int .u32 (.o g)))))] lC_d0]
noncomputable def lC_M (off : Nat) (n : Nat) (cs : Array Value) (ty : TypeId) (g : Int) (i : Int) (ts : Array Value) : SMem := mkM 2 [(0, ⟨.raw cs, ty, false⟩), (1, ⟨.op ts, 35, true⟩)]
noncomputable def lC_n (off : Nat) (n : Nat) (cs : Array Value) (ty : TypeId) (Q : Int → Int → Array Value → Prop) (fs : List SFr) (m : SMem) : Prop := (match frNth fs 0 with | some f0 => (match rdI f0 8 with | some g => (match rdI f0 4 with | some i => (match rdP f0 3 with | some p1 => (match rdA m p1 with | some ts => Q g i ts ∧ subOk 1 [(1, p1)] (lC_F off n cs ty g i ts) (lC_M off n cs ty g i ts) fs m | none => False) | none => False) | none => False) | none => False) | none => False)
noncomputable def lD_d0 : List SIt := sekF Try.f4 29
noncomputable def lD_F (off : Nat) (n : Nat) (cs : Array Value) (ty : TypeId) (g : Int) (w : Int) (r : Int) (j : Int) (i : Int) (ts : Array Value) (k : Nat) (rs : Array Value) : List SFr := [frOf 4 Try.f4 [(0, acS off n), (3, ptr 1 (.l 0)), (4, i64 (.o i)), (8, .s (.c (.f (.int .u32 (.o g))))), (9, .s (.c (.f (.slice 2 (.l 0) (.o k) (.full 1))))), (10, i64 (.o w)), (11, i64 (.o r)), (12, i64 (.o j))] lD_d0]
noncomputable def lD_M (off : Nat) (n : Nat) (cs : Array Value) (ty : TypeId) (g : Int) (w : Int) (r : Int) (j : Int) (i : Int) (ts : Array Value) (k : Nat) (rs : Array Value) : SMem := mkM 3 [(0, ⟨.raw cs, ty, false⟩), (1, ⟨.op ts, 35, true⟩), (2, ⟨.pop rs, 30, true⟩)]
noncomputable def lD_n (off : Nat) (n : Nat) (cs : Array Value) (ty : TypeId) (Q : Int → Int → Int → Int → Int → Array Value → Nat → Array Value → Prop) (fs : List SFr) (m : SMem) : Prop := (match frNth fs 0 with | some f0 => (match rdI f0 8 with | some g => (match rdI f0 10 with | some w => (match rdI f0 11 with | some r => (match rdI f0 12 with | some j => (match rdI f0 4 with | some i => (match rdP f0 3 with | some p1 => (match rdSI f0 9 with | some p2 => (match rdSN f0 9 with | some k => (match rdA m p1 with | some ts => (match rdA m p2 with | some rs => Q g w r j i ts k rs ∧ subOk 1 [(1, p1), (2, p2)] (lD_F off n cs ty g w r j i ts k rs) (lD_M off n cs ty g w r j i ts k rs) fs m | none => False) | none => False) | none => False) | none => False) | none => False) | none => False) | none => False) | none => False) | none => False) | none => False) | none => False)
noncomputable def lE_d0 : List SIt := sekF Try.f4 36
noncomputable def lE_F (off : Nat) (n : Nat) (cs : Array Value) (ty : TypeId) (g : Int) (w : Int) (r : Int) (i : Int) (ts : Array Value) : List SFr := [frOf 4 Try.f4 [(0, acS off n), (3, ptr 1 (.l 0)), (4, i64 (.o i)), (8, .s (.c (.f (.int .u32 (.o g))))), (10, i64 (.o w)), (11, i64 (.o r))] lE_d0]
noncomputable def lE_M (off : Nat) (n : Nat) (cs : Array Value) (ty : TypeId) (g : Int) (w : Int) (r : Int) (i : Int) (ts : Array Value) : SMem := mkM 2 [(0, ⟨.raw cs, ty, false⟩), (1, ⟨.op ts, 35, true⟩)]
noncomputable def lE_n (off : Nat) (n : Nat) (cs : Array Value) (ty : TypeId) (Q : Int → Int → Int → Int → Array Value → Prop) (fs : List SFr) (m : SMem) : Prop := (match frNth fs 0 with | some f0 => (match rdI f0 8 with | some g => (match rdI f0 10 with | some w => (match rdI f0 11 with | some r => (match rdI f0 4 with | some i => (match rdP f0 3 with | some p1 => (match rdA m p1 with | some ts => Q g w r i ts ∧ subOk 1 [(1, p1)] (lE_F off n cs ty g w r i ts) (lE_M off n cs ty g w r i ts) fs m | none => False) | none => False) | none => False) | none => False) | none => False) | none => False) | none => False)
noncomputable def vA_t (off : Nat) (n : Nat) (cs : Array Value) (ty : TypeId) (i : Int) (ts : Array Value) : Tree := stepT EL.go (run EL 1000) 1 (lA_F off n cs ty i ts) (lA_M off n cs ty i ts)
noncomputable def vA_x (off : Nat) (n : Nat) (cs : Array Value) (ty : TypeId) (i : Int) (ts : Array Value) (QlB : Int → Array Value → Prop) (fs : List SFr) (m : SMem) : Prop := lB_n off n cs ty QlB fs m
noncomputable def vB_t (off : Nat) (n : Nat) (cs : Array Value) (ty : TypeId) (i : Int) (ts : Array Value) : Tree := stepT EL.go (run EL 1000) 1 (lB_F off n cs ty i ts) (lB_M off n cs ty i ts)
noncomputable def vB_x (off : Nat) (n : Nat) (cs : Array Value) (ty : TypeId) (i : Int) (ts : Array Value) (QlC : Int → Int → Array Value → Prop) (fs : List SFr) (m : SMem) : Prop := lC_n off n cs ty QlC fs m
noncomputable def vC_t (off : Nat) (n : Nat) (cs : Array Value) (ty : TypeId) (g : Int) (i : Int) (ts : Array Value) : Tree := stepT EL.go (run EL 1000) 1 (lC_F off n cs ty g i ts) (lC_M off n cs ty g i ts)
noncomputable def vC_x (off : Nat) (n : Nat) (cs : Array Value) (ty : TypeId) (g : Int) (i : Int) (ts : Array Value) (QlD : Int → Int → Int → Int → Int → Array Value → Nat → Array Value → Prop) (QlE : Int → Int → Int → Int → Array Value → Prop) (fs : List SFr) (m : SMem) : Prop := (match Nat.beq (atR fs) 4029 with | true => lD_n off n cs ty QlD fs m | false => lE_n off n cs ty QlE fs m)
noncomputable def vD_t (off : Nat) (n : Nat) (cs : Array Value) (ty : TypeId) (g : Int) (w : Int) (r : Int) (j : Int) (i : Int) (ts : Array Value) (k : Nat) (rs : Array Value) : Tree := stepT EL.go (run EL 1000) 1 (lD_F off n cs ty g w r j i ts k rs) (lD_M off n cs ty g w r j i ts k rs)
noncomputable def vD_x (off : Nat) (n : Nat) (cs : Array Value) (ty : TypeId) (g : Int) (w : Int) (r : Int) (j : Int) (i : Int) (ts : Array Value) (k : Nat) (rs : Array Value) (QlD : Int → Int → Int → Int → Int → Array Value → Nat → Array Value → Prop) (QlE : Int → Int → Int → Int → Array Value → Prop) (fs : List SFr) (m : SMem) : Prop := (match Nat.beq (atR fs) 4029 with | true => lD_n off n cs ty QlD fs m | false => lE_n off n cs ty QlE fs m)
noncomputable def vE_t (off : Nat) (n : Nat) (cs : Array Value) (ty : TypeId) (g : Int) (w : Int) (r : Int) (i : Int) (ts : Array Value) : Tree := stepT EL.go (run EL 1000) 1 (lE_F off n cs ty g w r i ts) (lE_M off n cs ty g w r i ts)
noncomputable def vE_x (off : Nat) (n : Nat) (cs : Array Value) (ty : TypeId) (g : Int) (w : Int) (r : Int) (i : Int) (ts : Array Value) (QlC : Int → Int → Array Value → Prop) (QlA : Int → Array Value → Prop) (fs : List SFr) (m : SMem) : Prop := (match Nat.beq (atR fs) 4020 with | true => lC_n off n cs ty QlC fs m | false => lA_n off n cs ty QlA fs m)
noncomputable def v0_t (off : Nat) (n : Nat) (cs : Array Value) (ty : TypeId) : Tree := run EL 1000 1 [callFr 4 Try.f4.ntmps [acS off n] (Try.f4.body.getD .skip)] (mkM 1 [(0, ⟨.raw cs, ty, false⟩)])
noncomputable def v0_x (off : Nat) (n : Nat) (cs : Array Value) (ty : TypeId) (QlA : Int → Array Value → Prop) (fs : List SFr) (m : SMem) : Prop := lA_n off n cs ty QlA fs m
noncomputable def vZ_t (z : Nat) : Tree := run EW 1000 1 [callFr 4 Try.f4.ntmps [eS] (Try.f4.body.getD .skip)] (mkM 1 [])
noncomputable def vZ_x (z : Nat)  (fs : List SFr) (m : SMem) : Prop := False
theorem lA_d0_ok (r : Nat → Option Nat) : TodoOk r lA_d0 lA_d0 := TodoOk.it (by kernel_rfl)
theorem lB_d0_ok (r : Nat → Option Nat) : TodoOk r lB_d0 lB_d0 := TodoOk.it (by kernel_rfl)
theorem lC_d0_ok (r : Nat → Option Nat) : TodoOk r lC_d0 lC_d0 := TodoOk.it (by kernel_rfl)
theorem lD_d0_ok (r : Nat → Option Nat) : TodoOk r lD_d0 lD_d0 := TodoOk.it (by kernel_rfl)
theorem lE_d0_ok (r : Nat → Option Nat) : TodoOk r lE_d0 lE_d0 := TodoOk.it (by kernel_rfl)
theorem lA_good {A : SV → SMem → Prop} {off : Nat} {n : Nat} {cs : Array Value} {ty : TypeId} {Q : Int → Array Value → Prop} {fs : List SFr} {m : SMem} (H : ∀ i ts, Q i ts → Good Try.prog A 1 (lA_F off n cs ty i ts) (lA_M off n cs ty i ts)) (hb : lA_n off n cs ty Q fs m) : Good Try.prog A 1 fs m := by
  unfold lA_n at hb
  split at hb
  rotate_left
  · exact hb.elim
  split at hb
  rotate_left
  · exact hb.elim
  split at hb
  rotate_left
  · exact hb.elim
  split at hb
  rotate_left
  · exact hb.elim
  exact Good.of_sub hb.2 (H _ _ hb.1)
theorem lB_good {A : SV → SMem → Prop} {off : Nat} {n : Nat} {cs : Array Value} {ty : TypeId} {Q : Int → Array Value → Prop} {fs : List SFr} {m : SMem} (H : ∀ i ts, Q i ts → Good Try.prog A 1 (lB_F off n cs ty i ts) (lB_M off n cs ty i ts)) (hb : lB_n off n cs ty Q fs m) : Good Try.prog A 1 fs m := by
  unfold lB_n at hb
  split at hb
  rotate_left
  · exact hb.elim
  split at hb
  rotate_left
  · exact hb.elim
  split at hb
  rotate_left
  · exact hb.elim
  split at hb
  rotate_left
  · exact hb.elim
  exact Good.of_sub hb.2 (H _ _ hb.1)
theorem lC_good {A : SV → SMem → Prop} {off : Nat} {n : Nat} {cs : Array Value} {ty : TypeId} {Q : Int → Int → Array Value → Prop} {fs : List SFr} {m : SMem} (H : ∀ g i ts, Q g i ts → Good Try.prog A 1 (lC_F off n cs ty g i ts) (lC_M off n cs ty g i ts)) (hb : lC_n off n cs ty Q fs m) : Good Try.prog A 1 fs m := by
  unfold lC_n at hb
  split at hb
  rotate_left
  · exact hb.elim
  split at hb
  rotate_left
  · exact hb.elim
  split at hb
  rotate_left
  · exact hb.elim
  split at hb
  rotate_left
  · exact hb.elim
  split at hb
  rotate_left
  · exact hb.elim
  exact Good.of_sub hb.2 (H _ _ _ hb.1)
theorem lD_good {A : SV → SMem → Prop} {off : Nat} {n : Nat} {cs : Array Value} {ty : TypeId} {Q : Int → Int → Int → Int → Int → Array Value → Nat → Array Value → Prop} {fs : List SFr} {m : SMem} (H : ∀ g w r j i ts k rs, Q g w r j i ts k rs → Good Try.prog A 1 (lD_F off n cs ty g w r j i ts k rs) (lD_M off n cs ty g w r j i ts k rs)) (hb : lD_n off n cs ty Q fs m) : Good Try.prog A 1 fs m := by
  unfold lD_n at hb
  split at hb
  rotate_left
  · exact hb.elim
  split at hb
  rotate_left
  · exact hb.elim
  split at hb
  rotate_left
  · exact hb.elim
  split at hb
  rotate_left
  · exact hb.elim
  split at hb
  rotate_left
  · exact hb.elim
  split at hb
  rotate_left
  · exact hb.elim
  split at hb
  rotate_left
  · exact hb.elim
  split at hb
  rotate_left
  · exact hb.elim
  split at hb
  rotate_left
  · exact hb.elim
  split at hb
  rotate_left
  · exact hb.elim
  split at hb
  rotate_left
  · exact hb.elim
  exact Good.of_sub hb.2 (H _ _ _ _ _ _ _ _ hb.1)
theorem lE_good {A : SV → SMem → Prop} {off : Nat} {n : Nat} {cs : Array Value} {ty : TypeId} {Q : Int → Int → Int → Int → Array Value → Prop} {fs : List SFr} {m : SMem} (H : ∀ g w r i ts, Q g w r i ts → Good Try.prog A 1 (lE_F off n cs ty g w r i ts) (lE_M off n cs ty g w r i ts)) (hb : lE_n off n cs ty Q fs m) : Good Try.prog A 1 fs m := by
  unfold lE_n at hb
  split at hb
  rotate_left
  · exact hb.elim
  split at hb
  rotate_left
  · exact hb.elim
  split at hb
  rotate_left
  · exact hb.elim
  split at hb
  rotate_left
  · exact hb.elim
  split at hb
  rotate_left
  · exact hb.elim
  split at hb
  rotate_left
  · exact hb.elim
  split at hb
  rotate_left
  · exact hb.elim
  exact Good.of_sub hb.2 (H _ _ _ _ _ hb.1)
theorem vA_go {A : SV → SMem → Prop} {off : Nat} {n : Nat} {cs : Array Value} {ty : TypeId} {i : Int} {ts : Array Value} {QlB : Int → Array Value → Prop} {fs : List SFr} {m : SMem} (hlB : ∀ i' ts', QlB i' ts' → Good Try.prog A 1 (lB_F off n cs ty i' ts') (lB_M off n cs ty i' ts')) (hb : vA_x off n cs ty i ts QlB fs m) : Good Try.prog A 1 fs m := by
  unfold vA_x at hb
  exact lB_good hlB hb
theorem vB_go {A : SV → SMem → Prop} {off : Nat} {n : Nat} {cs : Array Value} {ty : TypeId} {i : Int} {ts : Array Value} {QlC : Int → Int → Array Value → Prop} {fs : List SFr} {m : SMem} (hlC : ∀ g' i' ts', QlC g' i' ts' → Good Try.prog A 1 (lC_F off n cs ty g' i' ts') (lC_M off n cs ty g' i' ts')) (hb : vB_x off n cs ty i ts QlC fs m) : Good Try.prog A 1 fs m := by
  unfold vB_x at hb
  exact lC_good hlC hb
theorem vC_go {A : SV → SMem → Prop} {off : Nat} {n : Nat} {cs : Array Value} {ty : TypeId} {g : Int} {i : Int} {ts : Array Value} {QlD : Int → Int → Int → Int → Int → Array Value → Nat → Array Value → Prop} {QlE : Int → Int → Int → Int → Array Value → Prop} {fs : List SFr} {m : SMem} (hlD : ∀ g' w' r' j' i' ts' k' rs', QlD g' w' r' j' i' ts' k' rs' → Good Try.prog A 1 (lD_F off n cs ty g' w' r' j' i' ts' k' rs') (lD_M off n cs ty g' w' r' j' i' ts' k' rs')) (hlE : ∀ g' w' r' i' ts', QlE g' w' r' i' ts' → Good Try.prog A 1 (lE_F off n cs ty g' w' r' i' ts') (lE_M off n cs ty g' w' r' i' ts')) (hb : vC_x off n cs ty g i ts QlD QlE fs m) : Good Try.prog A 1 fs m := by
  unfold vC_x at hb
  split at hb
  · exact lD_good hlD hb
  exact lE_good hlE hb
theorem vD_go {A : SV → SMem → Prop} {off : Nat} {n : Nat} {cs : Array Value} {ty : TypeId} {g : Int} {w : Int} {r : Int} {j : Int} {i : Int} {ts : Array Value} {k : Nat} {rs : Array Value} {QlD : Int → Int → Int → Int → Int → Array Value → Nat → Array Value → Prop} {QlE : Int → Int → Int → Int → Array Value → Prop} {fs : List SFr} {m : SMem} (hlD : ∀ g' w' r' j' i' ts' k' rs', QlD g' w' r' j' i' ts' k' rs' → Good Try.prog A 1 (lD_F off n cs ty g' w' r' j' i' ts' k' rs') (lD_M off n cs ty g' w' r' j' i' ts' k' rs')) (hlE : ∀ g' w' r' i' ts', QlE g' w' r' i' ts' → Good Try.prog A 1 (lE_F off n cs ty g' w' r' i' ts') (lE_M off n cs ty g' w' r' i' ts')) (hb : vD_x off n cs ty g w r j i ts k rs QlD QlE fs m) : Good Try.prog A 1 fs m := by
  unfold vD_x at hb
  split at hb
  · exact lD_good hlD hb
  exact lE_good hlE hb
theorem vE_go {A : SV → SMem → Prop} {off : Nat} {n : Nat} {cs : Array Value} {ty : TypeId} {g : Int} {w : Int} {r : Int} {i : Int} {ts : Array Value} {QlC : Int → Int → Array Value → Prop} {QlA : Int → Array Value → Prop} {fs : List SFr} {m : SMem} (hlC : ∀ g' i' ts', QlC g' i' ts' → Good Try.prog A 1 (lC_F off n cs ty g' i' ts') (lC_M off n cs ty g' i' ts')) (hlA : ∀ i' ts', QlA i' ts' → Good Try.prog A 1 (lA_F off n cs ty i' ts') (lA_M off n cs ty i' ts')) (hb : vE_x off n cs ty g w r i ts QlC QlA fs m) : Good Try.prog A 1 fs m := by
  unfold vE_x at hb
  split at hb
  · exact lC_good hlC hb
  exact lA_good hlA hb
theorem v0_go {A : SV → SMem → Prop} {off : Nat} {n : Nat} {cs : Array Value} {ty : TypeId} {QlA : Int → Array Value → Prop} {fs : List SFr} {m : SMem} (hlA : ∀ i' ts', QlA i' ts' → Good Try.prog A 1 (lA_F off n cs ty i' ts') (lA_M off n cs ty i' ts')) (hb : v0_x off n cs ty QlA fs m) : Good Try.prog A 1 fs m := by
  unfold v0_x at hb
  exact lA_good hlA hb
end Go.Proofs.Ytnjmockpdmchcaa
/- Of token: TokenOneWriter: the law's states. -/
namespace Go.Proofs.Ytnjmockpdmchcaa
set_option maxRecDepth 100000
theorem vA_vc (off : Nat) (n : Nat) (cs : Array Value) (ty : TypeId) (i : Int) (ts : Array Value) (QlB : Int → Array Value → Prop) : (vA_t off n cs ty i ts).vc ((isB true)) (vA_x off n cs ty i ts QlB) =
    ((decide (i < (↑n : Int)) = true → (((0 : Int) ≤ i ∧ i < (↑n : Int)) ∧ True) ∧ (IsInt IntKind.u8 cs (off + Int.toNat i * 7) ∧ IsInt IntKind.u32 cs (off + Int.toNat i * 7 + 1) ∧ IsInt IntKind.u32 cs (off + Int.toNat i * 7 + 2) ∧ IsInt IntKind.u8 cs (off + Int.toNat i * 7 + 3) ∧ IsInt IntKind.u8 cs (off + Int.toNat i * 7 + 4) ∧ IsBool cs (off + Int.toNat i * 7 + 5) ∧ IsInt IntKind.u32 cs (off + Int.toNat i * 7 + 6) ∧ True) ∧ ((intAt cs (off + Int.toNat i * 7) == (0 : Int)) = true → (Array.size ts = (144 : Nat) ∧ True) ∧ (TsOk ts ∧ ((0 : Int) ≤ intAt cs (off + Int.toNat i * 7 + 1) ∧ intAt cs (off + Int.toNat i * 7 + 1) < (4294967296 : Int)) ∧ True) ∧ (goodB (bkT ts) (intAt cs (off + Int.toNat i * 7 + 1)) = true → ((∃ n, Deep ts n (intAt cs (off + Int.toNat i * 7 + 1))) ∧ True) ∧ (Array.size (retT ts (intAt cs (off + Int.toNat i * 7 + 1))) = (144 : Nat) ∧ Array.size (retT ts (intAt cs (off + Int.toNat i * 7 + 1))) = Array.size ts ∧ True) ∧ QlB i (retT ts (intAt cs (off + Int.toNat i * 7 + 1))) ∧ CallKind.normal = CallKind.normal ∧ TodoOk (ren 1 [(1, 1)]) lB_d0 lB_d0 ∧ off = off ∧ n = n ∧ i = i ∧ ty = ty ∧ cs = cs ∧ (35 : TypeId) = (35 : TypeId) ∧ retT ts (intAt cs (off + Int.toNat i * 7 + 1)) = retT ts (intAt cs (off + Int.toNat i * 7 + 1)) ∧ True) ∧ (goodB (bkT ts) (intAt cs (off + Int.toNat i * 7 + 1)) = false → (Array.size ts = (144 : Nat) ∧ Array.size ts = Array.size ts ∧ True) ∧ QlB i ts ∧ CallKind.normal = CallKind.normal ∧ TodoOk (ren 1 [(1, 1)]) lB_d0 lB_d0 ∧ off = off ∧ n = n ∧ i = i ∧ ty = ty ∧ cs = cs ∧ (35 : TypeId) = (35 : TypeId) ∧ ts = ts ∧ True)) ∧ ((intAt cs (off + Int.toNat i * 7) == (0 : Int)) = false → ((intAt cs (off + Int.toNat i * 7) == (1 : Int)) = true → (Array.size ts = (144 : Nat) ∧ True) ∧ (TsOk ts ∧ True) ∧ (Array.size (clearT ts (ari BinOp.add IntKind.u32 (1 : Int) (ari BinOp.rem IntKind.u32 (intAt cs (off + Int.toNat i * 7 + 2)) (3 : Int)))) = (144 : Nat) ∧ Array.size (clearT ts (ari BinOp.add IntKind.u32 (1 : Int) (ari BinOp.rem IntKind.u32 (intAt cs (off + Int.toNat i * 7 + 2)) (3 : Int)))) = Array.size ts ∧ True) ∧ QlB i (clearT ts (ari BinOp.add IntKind.u32 (1 : Int) (ari BinOp.rem IntKind.u32 (intAt cs (off + Int.toNat i * 7 + 2)) (3 : Int)))) ∧ CallKind.normal = CallKind.normal ∧ TodoOk (ren 1 [(1, 1)]) lB_d0 lB_d0 ∧ off = off ∧ n = n ∧ i = i ∧ ty = ty ∧ cs = cs ∧ (35 : TypeId) = (35 : TypeId) ∧ clearT ts (ari BinOp.add IntKind.u32 (1 : Int) (ari BinOp.rem IntKind.u32 (intAt cs (off + Int.toNat i * 7 + 2)) (3 : Int))) = clearT ts (ari BinOp.add IntKind.u32 (1 : Int) (ari BinOp.rem IntKind.u32 (intAt cs (off + Int.toNat i * 7 + 2)) (3 : Int))) ∧ True) ∧ ((intAt cs (off + Int.toNat i * 7) == (1 : Int)) = false → (Array.size ts = (144 : Nat) ∧ True) ∧ (TsOk ts ∧ ((0 : Int) ≤ intAt cs (off + Int.toNat i * 7 + 6) ∧ intAt cs (off + Int.toNat i * 7 + 6) < (4294967296 : Int)) ∧ True) ∧ (Array.size (lendT ts (ari BinOp.add IntKind.u32 (1 : Int) (ari BinOp.rem IntKind.u32 (intAt cs (off + Int.toNat i * 7 + 2)) (3 : Int))) (intAt cs (off + Int.toNat i * 7 + 3)) (intAt cs (off + Int.toNat i * 7 + 4)) (boolAt cs (off + Int.toNat i * 7 + 5)) (intAt cs (off + Int.toNat i * 7 + 6))) = (144 : Nat) ∧ Array.size (lendT ts (ari BinOp.add IntKind.u32 (1 : Int) (ari BinOp.rem IntKind.u32 (intAt cs (off + Int.toNat i * 7 + 2)) (3 : Int))) (intAt cs (off + Int.toNat i * 7 + 3)) (intAt cs (off + Int.toNat i * 7 + 4)) (boolAt cs (off + Int.toNat i * 7 + 5)) (intAt cs (off + Int.toNat i * 7 + 6))) = Array.size ts ∧ True) ∧ QlB i (lendT ts (ari BinOp.add IntKind.u32 (1 : Int) (ari BinOp.rem IntKind.u32 (intAt cs (off + Int.toNat i * 7 + 2)) (3 : Int))) (intAt cs (off + Int.toNat i * 7 + 3)) (intAt cs (off + Int.toNat i * 7 + 4)) (boolAt cs (off + Int.toNat i * 7 + 5)) (intAt cs (off + Int.toNat i * 7 + 6))) ∧ CallKind.normal = CallKind.normal ∧ TodoOk (ren 1 [(1, 1)]) lB_d0 lB_d0 ∧ off = off ∧ n = n ∧ i = i ∧ ty = ty ∧ cs = cs ∧ (35 : TypeId) = (35 : TypeId) ∧ lendT ts (ari BinOp.add IntKind.u32 (1 : Int) (ari BinOp.rem IntKind.u32 (intAt cs (off + Int.toNat i * 7 + 2)) (3 : Int))) (intAt cs (off + Int.toNat i * 7 + 3)) (intAt cs (off + Int.toNat i * 7 + 4)) (boolAt cs (off + Int.toNat i * 7 + 5)) (intAt cs (off + Int.toNat i * 7 + 6)) = lendT ts (ari BinOp.add IntKind.u32 (1 : Int) (ari BinOp.rem IntKind.u32 (intAt cs (off + Int.toNat i * 7 + 2)) (3 : Int))) (intAt cs (off + Int.toNat i * 7 + 3)) (intAt cs (off + Int.toNat i * 7 + 4)) (boolAt cs (off + Int.toNat i * 7 + 5)) (intAt cs (off + Int.toNat i * 7 + 6)) ∧ True))) ∧ (decide (i < (↑n : Int)) = false → true = true)) := by kernel_rfl
theorem vB_vc (off : Nat) (n : Nat) (cs : Array Value) (ty : TypeId) (i : Int) (ts : Array Value) (QlC : Int → Int → Array Value → Prop) : (vB_t off n cs ty i ts).vc ((isB true)) (vB_x off n cs ty i ts QlC) =
    (QlC (1 : Int) i ts ∧ CallKind.normal = CallKind.normal ∧ TodoOk (ren 1 [(1, 1)]) lC_d0 lC_d0 ∧ off = off ∧ n = n ∧ i = i ∧ (1 : Int) = (1 : Int) ∧ ty = ty ∧ cs = cs ∧ (35 : TypeId) = (35 : TypeId) ∧ ts = ts ∧ True) := by kernel_rfl
theorem vC_vc (off : Nat) (n : Nat) (cs : Array Value) (ty : TypeId) (g : Int) (i : Int) (ts : Array Value) (QlD : Int → Int → Int → Int → Int → Array Value → Nat → Array Value → Prop) (QlE : Int → Int → Int → Int → Array Value → Prop) : (vC_t off n cs ty g i ts).vc ((isB true)) (vC_x off n cs ty g i ts QlD QlE) =
    ((Array.size ts = (144 : Nat) ∧ True) ∧ (Array.size ts = (144 : Nat) ∧ True) ∧ (TsOk ts ∧ True) ∧ (decide (List.length (whL (bkT ts) (aP ts g) (16 : Nat)) = (0 : Nat)) = true → (Array.size ts = (144 : Nat) ∧ True) ∧ (TsOk ts ∧ ((0 : Int) ≤ (0 : Int) ∧ (0 : Int) < (4294967296 : Int)) ∧ True) ∧ (writesB ts g (0 : Int) = true → (Array.size ts = (144 : Nat) ∧ True) ∧ (TsOk ts ∧ ((0 : Int) ≤ (0 : Int) ∧ (0 : Int) < (4294967296 : Int)) ∧ True) ∧ (readsB ts g (0 : Int) = true → QlE g (1 : Int) (1 : Int) i ts ∧ CallKind.normal = CallKind.normal ∧ TodoOk (ren 1 [(1, 1)]) lE_d0 lE_d0 ∧ off = off ∧ n = n ∧ (1 : Int) = (1 : Int) ∧ i = i ∧ g = g ∧ (1 : Int) = (1 : Int) ∧ ty = ty ∧ cs = cs ∧ (35 : TypeId) = (35 : TypeId) ∧ ts = ts ∧ True) ∧ (readsB ts g (0 : Int) = false → QlE g (1 : Int) (0 : Int) i ts ∧ CallKind.normal = CallKind.normal ∧ TodoOk (ren 1 [(1, 1)]) lE_d0 lE_d0 ∧ off = off ∧ n = n ∧ (0 : Int) = (0 : Int) ∧ i = i ∧ g = g ∧ (1 : Int) = (1 : Int) ∧ ty = ty ∧ cs = cs ∧ (35 : TypeId) = (35 : TypeId) ∧ ts = ts ∧ True)) ∧ (writesB ts g (0 : Int) = false → (Array.size ts = (144 : Nat) ∧ True) ∧ (TsOk ts ∧ ((0 : Int) ≤ (0 : Int) ∧ (0 : Int) < (4294967296 : Int)) ∧ True) ∧ (readsB ts g (0 : Int) = true → QlE g (0 : Int) (1 : Int) i ts ∧ CallKind.normal = CallKind.normal ∧ TodoOk (ren 1 [(1, 1)]) lE_d0 lE_d0 ∧ off = off ∧ n = n ∧ (1 : Int) = (1 : Int) ∧ i = i ∧ g = g ∧ (0 : Int) = (0 : Int) ∧ ty = ty ∧ cs = cs ∧ (35 : TypeId) = (35 : TypeId) ∧ ts = ts ∧ True) ∧ (readsB ts g (0 : Int) = false → QlE g (0 : Int) (0 : Int) i ts ∧ CallKind.normal = CallKind.normal ∧ TodoOk (ren 1 [(1, 1)]) lE_d0 lE_d0 ∧ off = off ∧ n = n ∧ (0 : Int) = (0 : Int) ∧ i = i ∧ g = g ∧ (0 : Int) = (0 : Int) ∧ ty = ty ∧ cs = cs ∧ (35 : TypeId) = (35 : TypeId) ∧ ts = ts ∧ True))) ∧ (decide (List.length (whL (bkT ts) (aP ts g) (16 : Nat)) = (0 : Nat)) = false → (Array.size ts = (144 : Nat) ∧ True) ∧ (TsOk ts ∧ ((0 : Int) ≤ (0 : Int) ∧ (0 : Int) < (4294967296 : Int)) ∧ True) ∧ (writesB ts g (0 : Int) = true → (Array.size ts = (144 : Nat) ∧ True) ∧ (TsOk ts ∧ ((0 : Int) ≤ (0 : Int) ∧ (0 : Int) < (4294967296 : Int)) ∧ True) ∧ (readsB ts g (0 : Int) = true → (decide ((0 : Int) < (↑(List.length (whL (bkT ts) (aP ts g) (16 : Nat))) : Int)) = true → QlD g (1 : Int) (1 : Int) (0 : Int) i ts (List.length (whL (bkT ts) (aP ts g) (16 : Nat))) (u32s (whL (bkT ts) (aP ts g) (16 : Nat))) ∧ CallKind.normal = CallKind.normal ∧ TodoOk (ren 1 [(1, 1), (2, 4)]) lD_d0 lD_d0 ∧ off = off ∧ n = n ∧ (1 : Int) = (1 : Int) ∧ List.length (whL (bkT ts) (aP ts g) (16 : Nat)) = List.length (whL (bkT ts) (aP ts g) (16 : Nat)) ∧ i = i ∧ g = g ∧ (0 : Int) = (0 : Int) ∧ (1 : Int) = (1 : Int) ∧ ty = ty ∧ cs = cs ∧ (35 : TypeId) = (35 : TypeId) ∧ ts = ts ∧ (30 : TypeId) = (30 : TypeId) ∧ u32s (whL (bkT ts) (aP ts g) (16 : Nat)) = u32s (whL (bkT ts) (aP ts g) (16 : Nat)) ∧ True) ∧ (decide ((0 : Int) < (↑(List.length (whL (bkT ts) (aP ts g) (16 : Nat))) : Int)) = false → QlE g (1 : Int) (1 : Int) i ts ∧ CallKind.normal = CallKind.normal ∧ TodoOk (ren 1 [(1, 1)]) lE_d0 lE_d0 ∧ off = off ∧ n = n ∧ (1 : Int) = (1 : Int) ∧ i = i ∧ g = g ∧ (1 : Int) = (1 : Int) ∧ ty = ty ∧ cs = cs ∧ (35 : TypeId) = (35 : TypeId) ∧ ts = ts ∧ True)) ∧ (readsB ts g (0 : Int) = false → (decide ((0 : Int) < (↑(List.length (whL (bkT ts) (aP ts g) (16 : Nat))) : Int)) = true → QlD g (1 : Int) (0 : Int) (0 : Int) i ts (List.length (whL (bkT ts) (aP ts g) (16 : Nat))) (u32s (whL (bkT ts) (aP ts g) (16 : Nat))) ∧ CallKind.normal = CallKind.normal ∧ TodoOk (ren 1 [(1, 1), (2, 4)]) lD_d0 lD_d0 ∧ off = off ∧ n = n ∧ (0 : Int) = (0 : Int) ∧ List.length (whL (bkT ts) (aP ts g) (16 : Nat)) = List.length (whL (bkT ts) (aP ts g) (16 : Nat)) ∧ i = i ∧ g = g ∧ (0 : Int) = (0 : Int) ∧ (1 : Int) = (1 : Int) ∧ ty = ty ∧ cs = cs ∧ (35 : TypeId) = (35 : TypeId) ∧ ts = ts ∧ (30 : TypeId) = (30 : TypeId) ∧ u32s (whL (bkT ts) (aP ts g) (16 : Nat)) = u32s (whL (bkT ts) (aP ts g) (16 : Nat)) ∧ True) ∧ (decide ((0 : Int) < (↑(List.length (whL (bkT ts) (aP ts g) (16 : Nat))) : Int)) = false → QlE g (1 : Int) (0 : Int) i ts ∧ CallKind.normal = CallKind.normal ∧ TodoOk (ren 1 [(1, 1)]) lE_d0 lE_d0 ∧ off = off ∧ n = n ∧ (0 : Int) = (0 : Int) ∧ i = i ∧ g = g ∧ (1 : Int) = (1 : Int) ∧ ty = ty ∧ cs = cs ∧ (35 : TypeId) = (35 : TypeId) ∧ ts = ts ∧ True))) ∧ (writesB ts g (0 : Int) = false → (Array.size ts = (144 : Nat) ∧ True) ∧ (TsOk ts ∧ ((0 : Int) ≤ (0 : Int) ∧ (0 : Int) < (4294967296 : Int)) ∧ True) ∧ (readsB ts g (0 : Int) = true → (decide ((0 : Int) < (↑(List.length (whL (bkT ts) (aP ts g) (16 : Nat))) : Int)) = true → QlD g (0 : Int) (1 : Int) (0 : Int) i ts (List.length (whL (bkT ts) (aP ts g) (16 : Nat))) (u32s (whL (bkT ts) (aP ts g) (16 : Nat))) ∧ CallKind.normal = CallKind.normal ∧ TodoOk (ren 1 [(1, 1), (2, 4)]) lD_d0 lD_d0 ∧ off = off ∧ n = n ∧ (1 : Int) = (1 : Int) ∧ List.length (whL (bkT ts) (aP ts g) (16 : Nat)) = List.length (whL (bkT ts) (aP ts g) (16 : Nat)) ∧ i = i ∧ g = g ∧ (0 : Int) = (0 : Int) ∧ (0 : Int) = (0 : Int) ∧ ty = ty ∧ cs = cs ∧ (35 : TypeId) = (35 : TypeId) ∧ ts = ts ∧ (30 : TypeId) = (30 : TypeId) ∧ u32s (whL (bkT ts) (aP ts g) (16 : Nat)) = u32s (whL (bkT ts) (aP ts g) (16 : Nat)) ∧ True) ∧ (decide ((0 : Int) < (↑(List.length (whL (bkT ts) (aP ts g) (16 : Nat))) : Int)) = false → QlE g (0 : Int) (1 : Int) i ts ∧ CallKind.normal = CallKind.normal ∧ TodoOk (ren 1 [(1, 1)]) lE_d0 lE_d0 ∧ off = off ∧ n = n ∧ (1 : Int) = (1 : Int) ∧ i = i ∧ g = g ∧ (0 : Int) = (0 : Int) ∧ ty = ty ∧ cs = cs ∧ (35 : TypeId) = (35 : TypeId) ∧ ts = ts ∧ True)) ∧ (readsB ts g (0 : Int) = false → (decide ((0 : Int) < (↑(List.length (whL (bkT ts) (aP ts g) (16 : Nat))) : Int)) = true → QlD g (0 : Int) (0 : Int) (0 : Int) i ts (List.length (whL (bkT ts) (aP ts g) (16 : Nat))) (u32s (whL (bkT ts) (aP ts g) (16 : Nat))) ∧ CallKind.normal = CallKind.normal ∧ TodoOk (ren 1 [(1, 1), (2, 4)]) lD_d0 lD_d0 ∧ off = off ∧ n = n ∧ (0 : Int) = (0 : Int) ∧ List.length (whL (bkT ts) (aP ts g) (16 : Nat)) = List.length (whL (bkT ts) (aP ts g) (16 : Nat)) ∧ i = i ∧ g = g ∧ (0 : Int) = (0 : Int) ∧ (0 : Int) = (0 : Int) ∧ ty = ty ∧ cs = cs ∧ (35 : TypeId) = (35 : TypeId) ∧ ts = ts ∧ (30 : TypeId) = (30 : TypeId) ∧ u32s (whL (bkT ts) (aP ts g) (16 : Nat)) = u32s (whL (bkT ts) (aP ts g) (16 : Nat)) ∧ True) ∧ (decide ((0 : Int) < (↑(List.length (whL (bkT ts) (aP ts g) (16 : Nat))) : Int)) = false → QlE g (0 : Int) (0 : Int) i ts ∧ CallKind.normal = CallKind.normal ∧ TodoOk (ren 1 [(1, 1)]) lE_d0 lE_d0 ∧ off = off ∧ n = n ∧ (0 : Int) = (0 : Int) ∧ i = i ∧ g = g ∧ (0 : Int) = (0 : Int) ∧ ty = ty ∧ cs = cs ∧ (35 : TypeId) = (35 : TypeId) ∧ ts = ts ∧ True))))) := by kernel_rfl
theorem vD_vc (off : Nat) (n : Nat) (cs : Array Value) (ty : TypeId) (g : Int) (w : Int) (r : Int) (j : Int) (i : Int) (ts : Array Value) (k : Nat) (rs : Array Value) (QlD : Int → Int → Int → Int → Int → Array Value → Nat → Array Value → Prop) (QlE : Int → Int → Int → Int → Array Value → Prop) : (vD_t off n cs ty g w r j i ts k rs).vc ((isB true)) (vD_x off n cs ty g w r j i ts k rs QlD QlE) =
    ((Array.size ts = (144 : Nat) ∧ True) ∧ (((0 : Int) ≤ j ∧ j < (↑k : Int)) ∧ True) ∧ (IsInt IntKind.u32 rs ((0 : Nat) + Int.toNat j * 1) ∧ True) ∧ (TsOk ts ∧ ((0 : Int) ≤ intAt rs ((0 : Nat) + Int.toNat j * 1) ∧ intAt rs ((0 : Nat) + Int.toNat j * 1) < (4294967296 : Int)) ∧ True) ∧ (Array.size (getC ts (intAt rs ((0 : Nat) + Int.toNat j * 1))) = (5 : Nat) ∧ Array.size (getC ts (intAt rs ((0 : Nat) + Int.toNat j * 1))) = (5 : Nat) ∧ True) ∧ (((getE ts (intAt rs ((0 : Nat) + Int.toNat j * 1)) != (0 : Int)) == false) = true → (IsInt IntKind.u32 (getC ts (intAt rs ((0 : Nat) + Int.toNat j * 1))) (0 : Nat) ∧ True) ∧ (((intAt (getC ts (intAt rs ((0 : Nat) + Int.toNat j * 1))) (0 : Nat) != g) == false) = true → (IsInt IntKind.u8 (getC ts (intAt rs ((0 : Nat) + Int.toNat j * 1))) (1 : Nat) ∧ True) ∧ (IsInt IntKind.u8 (getC ts (intAt rs ((0 : Nat) + Int.toNat j * 1))) (2 : Nat) ∧ True) ∧ ((intAt (getC ts (intAt rs ((0 : Nat) + Int.toNat j * 1))) (1 : Nat) == intAt (getC ts (intAt rs ((0 : Nat) + Int.toNat j * 1))) (2 : Nat)) = true → false = true) ∧ ((intAt (getC ts (intAt rs ((0 : Nat) + Int.toNat j * 1))) (1 : Nat) == intAt (getC ts (intAt rs ((0 : Nat) + Int.toNat j * 1))) (2 : Nat)) = false → (IsBool (getC ts (intAt rs ((0 : Nat) + Int.toNat j * 1))) (3 : Nat) ∧ True) ∧ ((boolAt (getC ts (intAt rs ((0 : Nat) + Int.toNat j * 1))) (3 : Nat) == true) = true → (Array.size ts = (144 : Nat) ∧ True) ∧ (((0 : Int) ≤ j ∧ j < (↑k : Int)) ∧ True) ∧ (IsInt IntKind.u32 rs ((0 : Nat) + Int.toNat j * 1) ∧ True) ∧ (TsOk ts ∧ ((0 : Int) ≤ intAt rs ((0 : Nat) + Int.toNat j * 1) ∧ intAt rs ((0 : Nat) + Int.toNat j * 1) < (4294967296 : Int)) ∧ True) ∧ (writesB ts g (intAt rs ((0 : Nat) + Int.toNat j * 1)) = true → (Array.size ts = (144 : Nat) ∧ True) ∧ (((0 : Int) ≤ j ∧ j < (↑k : Int)) ∧ True) ∧ (IsInt IntKind.u32 rs ((0 : Nat) + Int.toNat j * 1) ∧ True) ∧ (TsOk ts ∧ ((0 : Int) ≤ intAt rs ((0 : Nat) + Int.toNat j * 1) ∧ intAt rs ((0 : Nat) + Int.toNat j * 1) < (4294967296 : Int)) ∧ True) ∧ (readsB ts g (intAt rs ((0 : Nat) + Int.toNat j * 1)) = true → (decide (ari BinOp.add IntKind.i64 j (1 : Int) < (↑k : Int)) = true → QlD g (ari BinOp.add IntKind.i64 w (1 : Int)) (ari BinOp.add IntKind.i64 r (1 : Int)) (ari BinOp.add IntKind.i64 j (1 : Int)) i ts k rs ∧ CallKind.normal = CallKind.normal ∧ TodoOk (ren 1 [(1, 1), (2, 2)]) lD_d0 lD_d0 ∧ off = off ∧ n = n ∧ ari BinOp.add IntKind.i64 r (1 : Int) = ari BinOp.add IntKind.i64 r (1 : Int) ∧ k = k ∧ i = i ∧ g = g ∧ ari BinOp.add IntKind.i64 j (1 : Int) = ari BinOp.add IntKind.i64 j (1 : Int) ∧ ari BinOp.add IntKind.i64 w (1 : Int) = ari BinOp.add IntKind.i64 w (1 : Int) ∧ ty = ty ∧ cs = cs ∧ (35 : TypeId) = (35 : TypeId) ∧ ts = ts ∧ (30 : TypeId) = (30 : TypeId) ∧ rs = rs ∧ True) ∧ (decide (ari BinOp.add IntKind.i64 j (1 : Int) < (↑k : Int)) = false → QlE g (ari BinOp.add IntKind.i64 w (1 : Int)) (ari BinOp.add IntKind.i64 r (1 : Int)) i ts ∧ CallKind.normal = CallKind.normal ∧ TodoOk (ren 1 [(1, 1)]) lE_d0 lE_d0 ∧ off = off ∧ n = n ∧ ari BinOp.add IntKind.i64 r (1 : Int) = ari BinOp.add IntKind.i64 r (1 : Int) ∧ i = i ∧ g = g ∧ ari BinOp.add IntKind.i64 w (1 : Int) = ari BinOp.add IntKind.i64 w (1 : Int) ∧ ty = ty ∧ cs = cs ∧ (35 : TypeId) = (35 : TypeId) ∧ ts = ts ∧ True)) ∧ (readsB ts g (intAt rs ((0 : Nat) + Int.toNat j * 1)) = false → (decide (ari BinOp.add IntKind.i64 j (1 : Int) < (↑k : Int)) = true → QlD g (ari BinOp.add IntKind.i64 w (1 : Int)) r (ari BinOp.add IntKind.i64 j (1 : Int)) i ts k rs ∧ CallKind.normal = CallKind.normal ∧ TodoOk (ren 1 [(1, 1), (2, 2)]) lD_d0 lD_d0 ∧ off = off ∧ n = n ∧ r = r ∧ k = k ∧ i = i ∧ g = g ∧ ari BinOp.add IntKind.i64 j (1 : Int) = ari BinOp.add IntKind.i64 j (1 : Int) ∧ ari BinOp.add IntKind.i64 w (1 : Int) = ari BinOp.add IntKind.i64 w (1 : Int) ∧ ty = ty ∧ cs = cs ∧ (35 : TypeId) = (35 : TypeId) ∧ ts = ts ∧ (30 : TypeId) = (30 : TypeId) ∧ rs = rs ∧ True) ∧ (decide (ari BinOp.add IntKind.i64 j (1 : Int) < (↑k : Int)) = false → QlE g (ari BinOp.add IntKind.i64 w (1 : Int)) r i ts ∧ CallKind.normal = CallKind.normal ∧ TodoOk (ren 1 [(1, 1)]) lE_d0 lE_d0 ∧ off = off ∧ n = n ∧ r = r ∧ i = i ∧ g = g ∧ ari BinOp.add IntKind.i64 w (1 : Int) = ari BinOp.add IntKind.i64 w (1 : Int) ∧ ty = ty ∧ cs = cs ∧ (35 : TypeId) = (35 : TypeId) ∧ ts = ts ∧ True))) ∧ (writesB ts g (intAt rs ((0 : Nat) + Int.toNat j * 1)) = false → (Array.size ts = (144 : Nat) ∧ True) ∧ (((0 : Int) ≤ j ∧ j < (↑k : Int)) ∧ True) ∧ (IsInt IntKind.u32 rs ((0 : Nat) + Int.toNat j * 1) ∧ True) ∧ (TsOk ts ∧ ((0 : Int) ≤ intAt rs ((0 : Nat) + Int.toNat j * 1) ∧ intAt rs ((0 : Nat) + Int.toNat j * 1) < (4294967296 : Int)) ∧ True) ∧ (readsB ts g (intAt rs ((0 : Nat) + Int.toNat j * 1)) = true → (decide (ari BinOp.add IntKind.i64 j (1 : Int) < (↑k : Int)) = true → QlD g w (ari BinOp.add IntKind.i64 r (1 : Int)) (ari BinOp.add IntKind.i64 j (1 : Int)) i ts k rs ∧ CallKind.normal = CallKind.normal ∧ TodoOk (ren 1 [(1, 1), (2, 2)]) lD_d0 lD_d0 ∧ off = off ∧ n = n ∧ ari BinOp.add IntKind.i64 r (1 : Int) = ari BinOp.add IntKind.i64 r (1 : Int) ∧ k = k ∧ i = i ∧ g = g ∧ ari BinOp.add IntKind.i64 j (1 : Int) = ari BinOp.add IntKind.i64 j (1 : Int) ∧ w = w ∧ ty = ty ∧ cs = cs ∧ (35 : TypeId) = (35 : TypeId) ∧ ts = ts ∧ (30 : TypeId) = (30 : TypeId) ∧ rs = rs ∧ True) ∧ (decide (ari BinOp.add IntKind.i64 j (1 : Int) < (↑k : Int)) = false → QlE g w (ari BinOp.add IntKind.i64 r (1 : Int)) i ts ∧ CallKind.normal = CallKind.normal ∧ TodoOk (ren 1 [(1, 1)]) lE_d0 lE_d0 ∧ off = off ∧ n = n ∧ ari BinOp.add IntKind.i64 r (1 : Int) = ari BinOp.add IntKind.i64 r (1 : Int) ∧ i = i ∧ g = g ∧ w = w ∧ ty = ty ∧ cs = cs ∧ (35 : TypeId) = (35 : TypeId) ∧ ts = ts ∧ True)) ∧ (readsB ts g (intAt rs ((0 : Nat) + Int.toNat j * 1)) = false → (decide (ari BinOp.add IntKind.i64 j (1 : Int) < (↑k : Int)) = true → QlD g w r (ari BinOp.add IntKind.i64 j (1 : Int)) i ts k rs ∧ CallKind.normal = CallKind.normal ∧ TodoOk (ren 1 [(1, 1), (2, 2)]) lD_d0 lD_d0 ∧ off = off ∧ n = n ∧ r = r ∧ k = k ∧ i = i ∧ g = g ∧ ari BinOp.add IntKind.i64 j (1 : Int) = ari BinOp.add IntKind.i64 j (1 : Int) ∧ w = w ∧ ty = ty ∧ cs = cs ∧ (35 : TypeId) = (35 : TypeId) ∧ ts = ts ∧ (30 : TypeId) = (30 : TypeId) ∧ rs = rs ∧ True) ∧ (decide (ari BinOp.add IntKind.i64 j (1 : Int) < (↑k : Int)) = false → QlE g w r i ts ∧ CallKind.normal = CallKind.normal ∧ TodoOk (ren 1 [(1, 1)]) lE_d0 lE_d0 ∧ off = off ∧ n = n ∧ r = r ∧ i = i ∧ g = g ∧ w = w ∧ ty = ty ∧ cs = cs ∧ (35 : TypeId) = (35 : TypeId) ∧ ts = ts ∧ True)))) ∧ ((boolAt (getC ts (intAt rs ((0 : Nat) + Int.toNat j * 1))) (3 : Nat) == true) = false → (Array.size ts = (144 : Nat) ∧ True) ∧ (((0 : Int) ≤ j ∧ j < (↑k : Int)) ∧ True) ∧ (IsInt IntKind.u32 rs ((0 : Nat) + Int.toNat j * 1) ∧ True) ∧ (TsOk ts ∧ ((0 : Int) ≤ intAt rs ((0 : Nat) + Int.toNat j * 1) ∧ intAt rs ((0 : Nat) + Int.toNat j * 1) < (4294967296 : Int)) ∧ True) ∧ (readsB ts g (intAt rs ((0 : Nat) + Int.toNat j * 1)) = true → (decide (ari BinOp.add IntKind.i64 j (1 : Int) < (↑k : Int)) = true → QlD g w (ari BinOp.add IntKind.i64 r (1 : Int)) (ari BinOp.add IntKind.i64 j (1 : Int)) i ts k rs ∧ CallKind.normal = CallKind.normal ∧ TodoOk (ren 1 [(1, 1), (2, 2)]) lD_d0 lD_d0 ∧ off = off ∧ n = n ∧ ari BinOp.add IntKind.i64 r (1 : Int) = ari BinOp.add IntKind.i64 r (1 : Int) ∧ k = k ∧ i = i ∧ g = g ∧ ari BinOp.add IntKind.i64 j (1 : Int) = ari BinOp.add IntKind.i64 j (1 : Int) ∧ w = w ∧ ty = ty ∧ cs = cs ∧ (35 : TypeId) = (35 : TypeId) ∧ ts = ts ∧ (30 : TypeId) = (30 : TypeId) ∧ rs = rs ∧ True) ∧ (decide (ari BinOp.add IntKind.i64 j (1 : Int) < (↑k : Int)) = false → QlE g w (ari BinOp.add IntKind.i64 r (1 : Int)) i ts ∧ CallKind.normal = CallKind.normal ∧ TodoOk (ren 1 [(1, 1)]) lE_d0 lE_d0 ∧ off = off ∧ n = n ∧ ari BinOp.add IntKind.i64 r (1 : Int) = ari BinOp.add IntKind.i64 r (1 : Int) ∧ i = i ∧ g = g ∧ w = w ∧ ty = ty ∧ cs = cs ∧ (35 : TypeId) = (35 : TypeId) ∧ ts = ts ∧ True)) ∧ (readsB ts g (intAt rs ((0 : Nat) + Int.toNat j * 1)) = false → (decide (ari BinOp.add IntKind.i64 j (1 : Int) < (↑k : Int)) = true → QlD g w r (ari BinOp.add IntKind.i64 j (1 : Int)) i ts k rs ∧ CallKind.normal = CallKind.normal ∧ TodoOk (ren 1 [(1, 1), (2, 2)]) lD_d0 lD_d0 ∧ off = off ∧ n = n ∧ r = r ∧ k = k ∧ i = i ∧ g = g ∧ ari BinOp.add IntKind.i64 j (1 : Int) = ari BinOp.add IntKind.i64 j (1 : Int) ∧ w = w ∧ ty = ty ∧ cs = cs ∧ (35 : TypeId) = (35 : TypeId) ∧ ts = ts ∧ (30 : TypeId) = (30 : TypeId) ∧ rs = rs ∧ True) ∧ (decide (ari BinOp.add IntKind.i64 j (1 : Int) < (↑k : Int)) = false → QlE g w r i ts ∧ CallKind.normal = CallKind.normal ∧ TodoOk (ren 1 [(1, 1)]) lE_d0 lE_d0 ∧ off = off ∧ n = n ∧ r = r ∧ i = i ∧ g = g ∧ w = w ∧ ty = ty ∧ cs = cs ∧ (35 : TypeId) = (35 : TypeId) ∧ ts = ts ∧ True))))) ∧ (((intAt (getC ts (intAt rs ((0 : Nat) + Int.toNat j * 1))) (0 : Nat) != g) == false) = false → false = true)) ∧ (((getE ts (intAt rs ((0 : Nat) + Int.toNat j * 1)) != (0 : Int)) == false) = false → false = true)) := by kernel_rfl
theorem vE_vc (off : Nat) (n : Nat) (cs : Array Value) (ty : TypeId) (g : Int) (w : Int) (r : Int) (i : Int) (ts : Array Value) (QlC : Int → Int → Array Value → Prop) (QlA : Int → Array Value → Prop) : (vE_t off n cs ty g w r i ts).vc ((isB true)) (vE_x off n cs ty g w r i ts QlC QlA) =
    (((decide (w > (1 : Int)) == false) = true → (((w == (1 : Int)) == true) = true → ((decide (r > (1 : Int)) == false) = true → ((r == (0 : Int)) = true → false = true) ∧ ((r == (0 : Int)) = false → (decide (ari BinOp.add IntKind.u32 g (1 : Int) ≤ (3 : Int)) = true → QlC (ari BinOp.add IntKind.u32 g (1 : Int)) i ts ∧ CallKind.normal = CallKind.normal ∧ TodoOk (ren 1 [(1, 1)]) lC_d0 lC_d0 ∧ off = off ∧ n = n ∧ i = i ∧ ari BinOp.add IntKind.u32 g (1 : Int) = ari BinOp.add IntKind.u32 g (1 : Int) ∧ ty = ty ∧ cs = cs ∧ (35 : TypeId) = (35 : TypeId) ∧ ts = ts ∧ True) ∧ (decide (ari BinOp.add IntKind.u32 g (1 : Int) ≤ (3 : Int)) = false → QlA (ari BinOp.add IntKind.i64 i (1 : Int)) ts ∧ CallKind.normal = CallKind.normal ∧ TodoOk (ren 1 [(1, 1)]) lA_d0 lA_d0 ∧ off = off ∧ n = n ∧ ari BinOp.add IntKind.i64 i (1 : Int) = ari BinOp.add IntKind.i64 i (1 : Int) ∧ ty = ty ∧ cs = cs ∧ (35 : TypeId) = (35 : TypeId) ∧ ts = ts ∧ True))) ∧ ((decide (r > (1 : Int)) == false) = false → false = true)) ∧ (((w == (1 : Int)) == true) = false → ((r == (0 : Int)) = true → false = true) ∧ ((r == (0 : Int)) = false → (decide (ari BinOp.add IntKind.u32 g (1 : Int) ≤ (3 : Int)) = true → QlC (ari BinOp.add IntKind.u32 g (1 : Int)) i ts ∧ CallKind.normal = CallKind.normal ∧ TodoOk (ren 1 [(1, 1)]) lC_d0 lC_d0 ∧ off = off ∧ n = n ∧ i = i ∧ ari BinOp.add IntKind.u32 g (1 : Int) = ari BinOp.add IntKind.u32 g (1 : Int) ∧ ty = ty ∧ cs = cs ∧ (35 : TypeId) = (35 : TypeId) ∧ ts = ts ∧ True) ∧ (decide (ari BinOp.add IntKind.u32 g (1 : Int) ≤ (3 : Int)) = false → QlA (ari BinOp.add IntKind.i64 i (1 : Int)) ts ∧ CallKind.normal = CallKind.normal ∧ TodoOk (ren 1 [(1, 1)]) lA_d0 lA_d0 ∧ off = off ∧ n = n ∧ ari BinOp.add IntKind.i64 i (1 : Int) = ari BinOp.add IntKind.i64 i (1 : Int) ∧ ty = ty ∧ cs = cs ∧ (35 : TypeId) = (35 : TypeId) ∧ ts = ts ∧ True)))) ∧ ((decide (w > (1 : Int)) == false) = false → false = true)) := by kernel_rfl
theorem v0_vc (off : Nat) (n : Nat) (cs : Array Value) (ty : TypeId) (QlA : Int → Array Value → Prop) : (v0_t off n cs ty).vc ((isB true)) (v0_x off n cs ty QlA) =
    ((decide ((↑n : Int) > (150 : Int)) = true → true = true) ∧ (decide ((↑n : Int) > (150 : Int)) = false → QlA (0 : Int) #[Value.int IntKind.u32 (0 : Int), Value.int IntKind.u8 (0 : Int), Value.int IntKind.u32 (0 : Int), Value.int IntKind.u8 (0 : Int), Value.int IntKind.u32 (0 : Int), Value.int IntKind.u8 (0 : Int), Value.int IntKind.u32 (0 : Int), Value.int IntKind.u8 (0 : Int), Value.int IntKind.u32 (0 : Int), Value.int IntKind.u8 (0 : Int), Value.int IntKind.u32 (0 : Int), Value.int IntKind.u8 (0 : Int), Value.int IntKind.u32 (0 : Int), Value.int IntKind.u8 (0 : Int), Value.int IntKind.u32 (0 : Int), Value.int IntKind.u8 (0 : Int), Value.int IntKind.u32 (0 : Int), Value.int IntKind.u8 (0 : Int), Value.int IntKind.u32 (0 : Int), Value.int IntKind.u8 (0 : Int), Value.int IntKind.u32 (0 : Int), Value.int IntKind.u8 (0 : Int), Value.int IntKind.u32 (0 : Int), Value.int IntKind.u8 (0 : Int), Value.int IntKind.u32 (0 : Int), Value.int IntKind.u8 (0 : Int), Value.int IntKind.u32 (0 : Int), Value.int IntKind.u8 (0 : Int), Value.int IntKind.u32 (0 : Int), Value.int IntKind.u8 (0 : Int), Value.int IntKind.u32 (0 : Int), Value.int IntKind.u8 (0 : Int), Value.int IntKind.u32 (0 : Int), Value.int IntKind.u8 (0 : Int), Value.int IntKind.u32 (0 : Int), Value.int IntKind.u8 (0 : Int), Value.int IntKind.u32 (0 : Int), Value.int IntKind.u8 (0 : Int), Value.int IntKind.u32 (0 : Int), Value.int IntKind.u8 (0 : Int), Value.int IntKind.u32 (0 : Int), Value.int IntKind.u8 (0 : Int), Value.int IntKind.u32 (0 : Int), Value.int IntKind.u8 (0 : Int), Value.int IntKind.u32 (0 : Int), Value.int IntKind.u8 (0 : Int), Value.int IntKind.u32 (0 : Int), Value.int IntKind.u8 (0 : Int), Value.int IntKind.u32 (0 : Int), Value.int IntKind.u8 (0 : Int), Value.int IntKind.u32 (0 : Int), Value.int IntKind.u8 (0 : Int), Value.int IntKind.u32 (0 : Int), Value.int IntKind.u8 (0 : Int), Value.int IntKind.u32 (0 : Int), Value.int IntKind.u8 (0 : Int), Value.int IntKind.u32 (0 : Int), Value.int IntKind.u8 (0 : Int), Value.int IntKind.u32 (0 : Int), Value.int IntKind.u8 (0 : Int), Value.int IntKind.u32 (0 : Int), Value.int IntKind.u8 (0 : Int), Value.int IntKind.u32 (0 : Int), Value.int IntKind.u8 (0 : Int), Value.int IntKind.u32 (0 : Int), Value.int IntKind.u8 (0 : Int), Value.int IntKind.u8 (0 : Int), Value.bool false, Value.int IntKind.u32 (0 : Int), Value.int IntKind.u32 (0 : Int), Value.int IntKind.u8 (0 : Int), Value.int IntKind.u8 (0 : Int), Value.bool false, Value.int IntKind.u32 (0 : Int), Value.int IntKind.u32 (0 : Int), Value.int IntKind.u8 (0 : Int), Value.int IntKind.u8 (0 : Int), Value.bool false, Value.int IntKind.u32 (0 : Int), Value.int IntKind.u32 (0 : Int), Value.int IntKind.u8 (0 : Int), Value.int IntKind.u8 (0 : Int), Value.bool false, Value.int IntKind.u32 (0 : Int), Value.int IntKind.u32 (0 : Int), Value.int IntKind.u8 (0 : Int), Value.int IntKind.u8 (0 : Int), Value.bool false, Value.int IntKind.u32 (0 : Int), Value.int IntKind.u32 (0 : Int), Value.int IntKind.u8 (0 : Int), Value.int IntKind.u8 (0 : Int), Value.bool false, Value.int IntKind.u32 (0 : Int), Value.int IntKind.u32 (0 : Int), Value.int IntKind.u8 (0 : Int), Value.int IntKind.u8 (0 : Int), Value.bool false, Value.int IntKind.u32 (0 : Int), Value.int IntKind.u32 (0 : Int), Value.int IntKind.u8 (0 : Int), Value.int IntKind.u8 (0 : Int), Value.bool false, Value.int IntKind.u32 (0 : Int), Value.int IntKind.u32 (0 : Int), Value.int IntKind.u8 (0 : Int), Value.int IntKind.u8 (0 : Int), Value.bool false, Value.int IntKind.u32 (0 : Int), Value.int IntKind.u32 (0 : Int), Value.int IntKind.u8 (0 : Int), Value.int IntKind.u8 (0 : Int), Value.bool false, Value.int IntKind.u32 (0 : Int), Value.int IntKind.u32 (0 : Int), Value.int IntKind.u8 (0 : Int), Value.int IntKind.u8 (0 : Int), Value.bool false, Value.int IntKind.u32 (0 : Int), Value.int IntKind.u32 (0 : Int), Value.int IntKind.u8 (0 : Int), Value.int IntKind.u8 (0 : Int), Value.bool false, Value.int IntKind.u32 (0 : Int), Value.int IntKind.u32 (0 : Int), Value.int IntKind.u8 (0 : Int), Value.int IntKind.u8 (0 : Int), Value.bool false, Value.int IntKind.u32 (0 : Int), Value.int IntKind.u32 (0 : Int), Value.int IntKind.u8 (0 : Int), Value.int IntKind.u8 (0 : Int), Value.bool false, Value.int IntKind.u32 (0 : Int), Value.int IntKind.u32 (0 : Int), Value.int IntKind.u8 (0 : Int), Value.int IntKind.u8 (0 : Int), Value.bool false, Value.int IntKind.u32 (0 : Int), Value.int IntKind.u32 (0 : Int), Value.int IntKind.u8 (0 : Int), Value.int IntKind.u8 (0 : Int), Value.bool false, Value.int IntKind.u32 (0 : Int)] ∧ CallKind.normal = CallKind.normal ∧ TodoOk (ren 1 [(1, 1)]) lA_d0 lA_d0 ∧ off = off ∧ n = n ∧ (0 : Int) = (0 : Int) ∧ ty = ty ∧ cs = cs ∧ (35 : TypeId) = (35 : Nat) ∧ #[Value.int IntKind.u32 (0 : Int), Value.int IntKind.u8 (0 : Int), Value.int IntKind.u32 (0 : Int), Value.int IntKind.u8 (0 : Int), Value.int IntKind.u32 (0 : Int), Value.int IntKind.u8 (0 : Int), Value.int IntKind.u32 (0 : Int), Value.int IntKind.u8 (0 : Int), Value.int IntKind.u32 (0 : Int), Value.int IntKind.u8 (0 : Int), Value.int IntKind.u32 (0 : Int), Value.int IntKind.u8 (0 : Int), Value.int IntKind.u32 (0 : Int), Value.int IntKind.u8 (0 : Int), Value.int IntKind.u32 (0 : Int), Value.int IntKind.u8 (0 : Int), Value.int IntKind.u32 (0 : Int), Value.int IntKind.u8 (0 : Int), Value.int IntKind.u32 (0 : Int), Value.int IntKind.u8 (0 : Int), Value.int IntKind.u32 (0 : Int), Value.int IntKind.u8 (0 : Int), Value.int IntKind.u32 (0 : Int), Value.int IntKind.u8 (0 : Int), Value.int IntKind.u32 (0 : Int), Value.int IntKind.u8 (0 : Int), Value.int IntKind.u32 (0 : Int), Value.int IntKind.u8 (0 : Int), Value.int IntKind.u32 (0 : Int), Value.int IntKind.u8 (0 : Int), Value.int IntKind.u32 (0 : Int), Value.int IntKind.u8 (0 : Int), Value.int IntKind.u32 (0 : Int), Value.int IntKind.u8 (0 : Int), Value.int IntKind.u32 (0 : Int), Value.int IntKind.u8 (0 : Int), Value.int IntKind.u32 (0 : Int), Value.int IntKind.u8 (0 : Int), Value.int IntKind.u32 (0 : Int), Value.int IntKind.u8 (0 : Int), Value.int IntKind.u32 (0 : Int), Value.int IntKind.u8 (0 : Int), Value.int IntKind.u32 (0 : Int), Value.int IntKind.u8 (0 : Int), Value.int IntKind.u32 (0 : Int), Value.int IntKind.u8 (0 : Int), Value.int IntKind.u32 (0 : Int), Value.int IntKind.u8 (0 : Int), Value.int IntKind.u32 (0 : Int), Value.int IntKind.u8 (0 : Int), Value.int IntKind.u32 (0 : Int), Value.int IntKind.u8 (0 : Int), Value.int IntKind.u32 (0 : Int), Value.int IntKind.u8 (0 : Int), Value.int IntKind.u32 (0 : Int), Value.int IntKind.u8 (0 : Int), Value.int IntKind.u32 (0 : Int), Value.int IntKind.u8 (0 : Int), Value.int IntKind.u32 (0 : Int), Value.int IntKind.u8 (0 : Int), Value.int IntKind.u32 (0 : Int), Value.int IntKind.u8 (0 : Int), Value.int IntKind.u32 (0 : Int), Value.int IntKind.u8 (0 : Int), Value.int IntKind.u32 (0 : Int), Value.int IntKind.u8 (0 : Int), Value.int IntKind.u8 (0 : Int), Value.bool false, Value.int IntKind.u32 (0 : Int), Value.int IntKind.u32 (0 : Int), Value.int IntKind.u8 (0 : Int), Value.int IntKind.u8 (0 : Int), Value.bool false, Value.int IntKind.u32 (0 : Int), Value.int IntKind.u32 (0 : Int), Value.int IntKind.u8 (0 : Int), Value.int IntKind.u8 (0 : Int), Value.bool false, Value.int IntKind.u32 (0 : Int), Value.int IntKind.u32 (0 : Int), Value.int IntKind.u8 (0 : Int), Value.int IntKind.u8 (0 : Int), Value.bool false, Value.int IntKind.u32 (0 : Int), Value.int IntKind.u32 (0 : Int), Value.int IntKind.u8 (0 : Int), Value.int IntKind.u8 (0 : Int), Value.bool false, Value.int IntKind.u32 (0 : Int), Value.int IntKind.u32 (0 : Int), Value.int IntKind.u8 (0 : Int), Value.int IntKind.u8 (0 : Int), Value.bool false, Value.int IntKind.u32 (0 : Int), Value.int IntKind.u32 (0 : Int), Value.int IntKind.u8 (0 : Int), Value.int IntKind.u8 (0 : Int), Value.bool false, Value.int IntKind.u32 (0 : Int), Value.int IntKind.u32 (0 : Int), Value.int IntKind.u8 (0 : Int), Value.int IntKind.u8 (0 : Int), Value.bool false, Value.int IntKind.u32 (0 : Int), Value.int IntKind.u32 (0 : Int), Value.int IntKind.u8 (0 : Int), Value.int IntKind.u8 (0 : Int), Value.bool false, Value.int IntKind.u32 (0 : Int), Value.int IntKind.u32 (0 : Int), Value.int IntKind.u8 (0 : Int), Value.int IntKind.u8 (0 : Int), Value.bool false, Value.int IntKind.u32 (0 : Int), Value.int IntKind.u32 (0 : Int), Value.int IntKind.u8 (0 : Int), Value.int IntKind.u8 (0 : Int), Value.bool false, Value.int IntKind.u32 (0 : Int), Value.int IntKind.u32 (0 : Int), Value.int IntKind.u8 (0 : Int), Value.int IntKind.u8 (0 : Int), Value.bool false, Value.int IntKind.u32 (0 : Int), Value.int IntKind.u32 (0 : Int), Value.int IntKind.u8 (0 : Int), Value.int IntKind.u8 (0 : Int), Value.bool false, Value.int IntKind.u32 (0 : Int), Value.int IntKind.u32 (0 : Int), Value.int IntKind.u8 (0 : Int), Value.int IntKind.u8 (0 : Int), Value.bool false, Value.int IntKind.u32 (0 : Int), Value.int IntKind.u32 (0 : Int), Value.int IntKind.u8 (0 : Int), Value.int IntKind.u8 (0 : Int), Value.bool false, Value.int IntKind.u32 (0 : Int), Value.int IntKind.u32 (0 : Int), Value.int IntKind.u8 (0 : Int), Value.int IntKind.u8 (0 : Int), Value.bool false, Value.int IntKind.u32 (0 : Int)] = #[Value.int IntKind.u32 (0 : Int), Value.int IntKind.u8 (0 : Int), Value.int IntKind.u32 (0 : Int), Value.int IntKind.u8 (0 : Int), Value.int IntKind.u32 (0 : Int), Value.int IntKind.u8 (0 : Int), Value.int IntKind.u32 (0 : Int), Value.int IntKind.u8 (0 : Int), Value.int IntKind.u32 (0 : Int), Value.int IntKind.u8 (0 : Int), Value.int IntKind.u32 (0 : Int), Value.int IntKind.u8 (0 : Int), Value.int IntKind.u32 (0 : Int), Value.int IntKind.u8 (0 : Int), Value.int IntKind.u32 (0 : Int), Value.int IntKind.u8 (0 : Int), Value.int IntKind.u32 (0 : Int), Value.int IntKind.u8 (0 : Int), Value.int IntKind.u32 (0 : Int), Value.int IntKind.u8 (0 : Int), Value.int IntKind.u32 (0 : Int), Value.int IntKind.u8 (0 : Int), Value.int IntKind.u32 (0 : Int), Value.int IntKind.u8 (0 : Int), Value.int IntKind.u32 (0 : Int), Value.int IntKind.u8 (0 : Int), Value.int IntKind.u32 (0 : Int), Value.int IntKind.u8 (0 : Int), Value.int IntKind.u32 (0 : Int), Value.int IntKind.u8 (0 : Int), Value.int IntKind.u32 (0 : Int), Value.int IntKind.u8 (0 : Int), Value.int IntKind.u32 (0 : Int), Value.int IntKind.u8 (0 : Int), Value.int IntKind.u32 (0 : Int), Value.int IntKind.u8 (0 : Int), Value.int IntKind.u32 (0 : Int), Value.int IntKind.u8 (0 : Int), Value.int IntKind.u32 (0 : Int), Value.int IntKind.u8 (0 : Int), Value.int IntKind.u32 (0 : Int), Value.int IntKind.u8 (0 : Int), Value.int IntKind.u32 (0 : Int), Value.int IntKind.u8 (0 : Int), Value.int IntKind.u32 (0 : Int), Value.int IntKind.u8 (0 : Int), Value.int IntKind.u32 (0 : Int), Value.int IntKind.u8 (0 : Int), Value.int IntKind.u32 (0 : Int), Value.int IntKind.u8 (0 : Int), Value.int IntKind.u32 (0 : Int), Value.int IntKind.u8 (0 : Int), Value.int IntKind.u32 (0 : Int), Value.int IntKind.u8 (0 : Int), Value.int IntKind.u32 (0 : Int), Value.int IntKind.u8 (0 : Int), Value.int IntKind.u32 (0 : Int), Value.int IntKind.u8 (0 : Int), Value.int IntKind.u32 (0 : Int), Value.int IntKind.u8 (0 : Int), Value.int IntKind.u32 (0 : Int), Value.int IntKind.u8 (0 : Int), Value.int IntKind.u32 (0 : Int), Value.int IntKind.u8 (0 : Int), Value.int IntKind.u32 (0 : Int), Value.int IntKind.u8 (0 : Int), Value.int IntKind.u8 (0 : Int), Value.bool false, Value.int IntKind.u32 (0 : Int), Value.int IntKind.u32 (0 : Int), Value.int IntKind.u8 (0 : Int), Value.int IntKind.u8 (0 : Int), Value.bool false, Value.int IntKind.u32 (0 : Int), Value.int IntKind.u32 (0 : Int), Value.int IntKind.u8 (0 : Int), Value.int IntKind.u8 (0 : Int), Value.bool false, Value.int IntKind.u32 (0 : Int), Value.int IntKind.u32 (0 : Int), Value.int IntKind.u8 (0 : Int), Value.int IntKind.u8 (0 : Int), Value.bool false, Value.int IntKind.u32 (0 : Int), Value.int IntKind.u32 (0 : Int), Value.int IntKind.u8 (0 : Int), Value.int IntKind.u8 (0 : Int), Value.bool false, Value.int IntKind.u32 (0 : Int), Value.int IntKind.u32 (0 : Int), Value.int IntKind.u8 (0 : Int), Value.int IntKind.u8 (0 : Int), Value.bool false, Value.int IntKind.u32 (0 : Int), Value.int IntKind.u32 (0 : Int), Value.int IntKind.u8 (0 : Int), Value.int IntKind.u8 (0 : Int), Value.bool false, Value.int IntKind.u32 (0 : Int), Value.int IntKind.u32 (0 : Int), Value.int IntKind.u8 (0 : Int), Value.int IntKind.u8 (0 : Int), Value.bool false, Value.int IntKind.u32 (0 : Int), Value.int IntKind.u32 (0 : Int), Value.int IntKind.u8 (0 : Int), Value.int IntKind.u8 (0 : Int), Value.bool false, Value.int IntKind.u32 (0 : Int), Value.int IntKind.u32 (0 : Int), Value.int IntKind.u8 (0 : Int), Value.int IntKind.u8 (0 : Int), Value.bool false, Value.int IntKind.u32 (0 : Int), Value.int IntKind.u32 (0 : Int), Value.int IntKind.u8 (0 : Int), Value.int IntKind.u8 (0 : Int), Value.bool false, Value.int IntKind.u32 (0 : Int), Value.int IntKind.u32 (0 : Int), Value.int IntKind.u8 (0 : Int), Value.int IntKind.u8 (0 : Int), Value.bool false, Value.int IntKind.u32 (0 : Int), Value.int IntKind.u32 (0 : Int), Value.int IntKind.u8 (0 : Int), Value.int IntKind.u8 (0 : Int), Value.bool false, Value.int IntKind.u32 (0 : Int), Value.int IntKind.u32 (0 : Int), Value.int IntKind.u8 (0 : Int), Value.int IntKind.u8 (0 : Int), Value.bool false, Value.int IntKind.u32 (0 : Int), Value.int IntKind.u32 (0 : Int), Value.int IntKind.u8 (0 : Int), Value.int IntKind.u8 (0 : Int), Value.bool false, Value.int IntKind.u32 (0 : Int), Value.int IntKind.u32 (0 : Int), Value.int IntKind.u8 (0 : Int), Value.int IntKind.u8 (0 : Int), Value.bool false, Value.int IntKind.u32 (0 : Int)] ∧ True)) := by kernel_rfl
theorem vZ_vc (z : Nat) : (vZ_t z).vc ((isB true)) (vZ_x z ) =
    (true = true) := by kernel_rfl
end Go.Proofs.Ytnjmockpdmchcaa
/- Of token: what is always so of tokens: who lends whom what. No condition. -/
namespace Go.Proofs.Ytnjmockpdmchcaa
set_option maxRecDepth 100000
set_option linter.unusedSimpArgs false
set_option linter.unusedVariables false
def gd (ts : Array Value) (x : Int) : Prop := goodB (bkT ts) x = true
def rR (ts : Array Value) (x : Int) : Int := tR ts (sl x)
def rA (ts : Array Value) (x : Int) : Int := tA ts (sl x)
def rMu (ts : Array Value) (x : Int) : Bool := tM ts (sl x)
structure Inv (ts : Array Value) : Prop where
  ok : TsOk ts
  reg : ∀ x, gd ts x → rA ts x ≠ 0 → gd ts (rA ts x) ∧ rR ts (rA ts x) = rR ts x
  mt : ∀ x, gd ts x → rMu ts x = true → rA ts x ≠ 0 → rMu ts (rA ts x) = true
  only : ∀ x y, gd ts x → gd ts y → rR ts x = rR ts y → rA ts x = rA ts y → rMu ts x = true → x = y
  ne : ∀ x, gd ts x → tB ts (sl x) ≠ tT ts (sl x)
  rk : ∃ (f : Int → Nat) (B : Nat), (∀ x, gd ts x → f x ≤ B) ∧ ∀ x, gd ts x → rA ts x ≠ 0 → f (rA ts x) < f x
section
variable {ts ts' : Array Value}
/-- Some are taken away, with all that is lent by them. -/
theorem Inv.less (h : Inv ts) (ok : TsOk ts') (h1 : ∀ y, gd ts' y → gd ts y ∧ tk5 ts' (sl y) = tk5 ts (sl y)) (h2 : ∀ y, gd ts' y → rA ts y ≠ 0 → gd ts' (rA ts y)) : Inv ts' := by
  have eR : ∀ y, gd ts' y → rR ts' y = rR ts y := fun y hy => by show intAt _ _ = intAt _ _; rw [(h1 y hy).2]
  have eA : ∀ y, gd ts' y → rA ts' y = rA ts y := fun y hy => by show intAt _ _ = intAt _ _; rw [(h1 y hy).2]
  have eM : ∀ y, gd ts' y → rMu ts' y = rMu ts y := fun y hy => by show boolAt _ _ = boolAt _ _; rw [(h1 y hy).2]
  refine ⟨ok, fun x hx ha => ?_, fun x hx hm ha => ?_, fun x y hx hy e1 e2 hm => ?_, fun x hx => ?_, ?_⟩
  · rw [eA x hx] at ha ⊢
    have h3 := h2 x hx ha
    rw [eR x hx, eR _ h3]
    exact ⟨h3, (h.reg x (h1 x hx).1 ha).2⟩
  · rw [eA x hx] at ha ⊢
    rw [eM x hx] at hm
    rw [eM _ (h2 x hx ha)]
    exact h.mt x (h1 x hx).1 hm ha
  · rw [eR x hx, eR y hy] at e1
    rw [eA x hx, eA y hy] at e2
    rw [eM x hx] at hm
    exact h.only x y (h1 x hx).1 (h1 y hy).1 e1 e2 hm
  · have := h.ne x (h1 x hx).1
    show intAt _ _ ≠ intAt _ _
    rw [(h1 x hx).2]
    exact this
  · obtain ⟨f, B, k1, k2⟩ := h.rk
    refine ⟨f, B, fun x hx => k1 x (h1 x hx).1, fun x hx ha => ?_⟩
    rw [eA x hx] at ha ⊢
    exact k2 x (h1 x hx).1 ha
/-- Who is good has a slot of his own. -/
theorem sl_inj (h : TsOk ts) {x y : Int} (hx : gd ts x) (hy : gd ts y) (e : sl x = sl y) : x = y := by
  obtain ⟨_, _, _, _, _, hx6, _, _⟩ := good_slot h hx
  obtain ⟨_, _, _, _, _, hy6, _, _⟩ := good_slot h hy
  rw [hx6, hy6, e]
/-- What is left when a row of good ones is taken away. -/
theorem out_facts (h : TsOk ts) {l : List Int} (hl : HsOk l) (hg : ∀ x ∈ l, gd ts x) : ∀ i, i ≤ l.length → (∀ y, gd (outT ts l i) y ↔ gd ts y ∧ y ∉ l.take i) ∧ ∀ y, gd (outT ts l i) y → tk5 (outT ts l i) (sl y) = tk5 ts (sl y)
  | 0, _ => ⟨fun y => ⟨fun h => ⟨h, by simp⟩, fun h => h.1⟩, fun y _ => rfl⟩
  | i + 1, hi => by
    obtain ⟨k1, k2⟩ := out_facts h hl hg i (by omega)
    have hi' : i < l.length := by omega
    have hm : l.getD i 0 ∈ l := by rw [List.getD_eq_getElem?_getD, List.getElem?_eq_getElem hi']; exact List.getElem_mem _
    have hx := hl _ hm
    have ho := outT_ok h hl i (by omega)
    have hs16 : sl (l.getD i 0) < 16 := by have := slotI_lt hx.1; unfold sl; omega
    obtain ⟨c1, c2, c3⟩ := clr_facts ho hx.1 hs16
    have hgy : ∀ y, gd (outT ts l (i + 1)) y ↔ gd (outT ts l i) y ∧ y ≠ l.getD i 0 := by
      intro y
      show goodB (bkT (clrT (outT ts l i) (l.getD i 0))) y = true ↔ _
      rw [c2, void_good ho.bk, Bool.and_eq_true, Bool.not_eq_true', decide_eq_false_iff_not]
      exact Iff.rfl
    have ht : l.take (i + 1) = l.take i ++ [l.getD i 0] := by
      rw [List.take_add_one, List.getElem?_eq_getElem hi', List.getD_eq_getElem?_getD, List.getElem?_eq_getElem hi']
      rfl
    refine ⟨fun y => ?_, fun y hy => ?_⟩
    · rw [hgy, k1, ht, List.mem_append, List.mem_singleton, not_or, and_assoc]
    · obtain ⟨h3, h4⟩ := (hgy y).1 hy
      obtain ⟨_, _, g3, _⟩ := good_slot ho h3
      show tk5 (clrT (outT ts l i) (l.getD i 0)) (sl y) = _
      rw [c3 _ g3, if_neg ?_, k2 y h3]
      intro e
      exact h4 (sl_inj h ((k1 y).1 h3).1 (hg _ hm) e)
theorem Inv.out (h : Inv ts) {l : List Int} (hl : HsOk l) (hg : ∀ x ∈ l, gd ts x) (hd : ∀ y, gd ts y → rA ts y ≠ 0 → rA ts y ∈ l → y ∈ l) : Inv (outT ts l l.length) := by
  obtain ⟨k1, k2⟩ := out_facts h.ok hl hg l.length (Nat.le_refl _)
  rw [List.take_length] at k1
  refine h.less (outT_ok h.ok hl _ (Nat.le_refl _)) (fun y hy => ⟨((k1 y).1 hy).1, k2 y hy⟩) fun y hy ha => ?_
  obtain ⟨h1, h2⟩ := (k1 y).1 hy
  exact (k1 _).2 ⟨(h.reg y h1 ha).1, fun hm => h2 (hd y h1 ha hm)⟩
theorem kids_mem (h : TsOk ts) {x k : Int} : k ∈ kidsT ts x ↔ gd ts k ∧ rA ts k = x := by
  unfold kidsT
  rw [wh_mem h]
  show _ ∧ (intAt (tk5 ts (sl k)) 4 == x) = true ↔ _
  rw [beq_iff_eq]
  exact Iff.rfl
theorem Inv.deep (h : Inv ts) {x : Int} (hx : gd ts x) : ∃ n, Deep ts n x := by
  obtain ⟨f, B, k1, k2⟩ := h.rk
  have key : ∀ (n : Nat) (x : Int), gd ts x → B + 1 - f x ≤ n → Deep ts n x := by
    intro n
    induction n with
    | zero => intro x hx hn; have := k1 x hx; omega
    | succ n ih =>
      intro x hx hn k hk
      obtain ⟨g1, g2⟩ := (kids_mem h.ok).1 hk
      have hx0 : x ≠ 0 := fun e => by have := (good_slot h.ok hx).2.2.2.2.2.2.2; omega
      have := k2 k g1 (by rw [g2]; exact hx0)
      rw [g2] at this
      have := k1 k g1
      exact ih k g1 (by omega)
  exact ⟨B + 1 - f x, key _ x hx (Nat.le_refl _)⟩
theorem below_last {x y z : Int} (h : Below1 ts x y) (hk : z ∈ kidsT ts y) : Below1 ts x z := by
  induction h with
  | self h => exact .kid hk (.self z)
  | kid h1 _ ih => exact .kid h1 (ih hk)
theorem Inv.ret (h : Inv ts) {x : Int} (hx : gd ts x) : Inv (retT ts x) := by
  have hd := depN_ok (h.deep hx)
  refine h.out (gone_hs h.ok) (fun y hy => ((gone_mem h.ok hd).1 hy).1) fun y hy ha hm => ?_
  obtain ⟨g1, g2⟩ := (gone_mem h.ok hd).1 hm
  exact (gone_mem h.ok hd).2 ⟨hy, below_last g2 ((kids_mem h.ok).2 ⟨hy, rfl⟩)⟩
theorem on_mem (h : TsOk ts) {r x : Int} : x ∈ onL ts r ↔ gd ts x ∧ rR ts x = r := by
  unfold onL
  rw [wh_mem h]
  show _ ∧ (intAt (tk5 ts (sl x)) 0 == r) = true ↔ _
  rw [beq_iff_eq]
  exact Iff.rfl
theorem Inv.clear (h : Inv ts) (r : Int) : Inv (clearT ts r) := by
  refine h.out (wh_hs h.ok) (fun y hy => ((on_mem h.ok).1 hy).1) fun y hy ha hm => ?_
  exact (on_mem h.ok).2 ⟨hy, ((h.reg y hy ha).2).symm.trans ((on_mem h.ok).1 hm).2⟩
/-- That nothing is lent so: no child, or no mutable one. -/
theorem free_iff (h : TsOk ts) {r a : Int} {all : Bool} : freeB ts r a all = true ↔ ∀ y, gd ts y → rR ts y = r → rA ts y = a → (rMu ts y || !all) = false := by
  unfold freeB
  rw [decide_eq_true_eq]
  constructor
  · intro e y hy h1 h2
    cases hc : (rMu ts y || !all) with
    | false => rfl
    | true =>
      have hm : y ∈ whL (bkT ts) (dP ts r a all) 16 := (wh_mem h).2 ⟨hy, by
        unfold dP
        rw [show (intAt (tk5 ts (sl y)) 0 == r) = true from beq_iff_eq.2 h1, show (intAt (tk5 ts (sl y)) 4 == a) = true from beq_iff_eq.2 h2]
        exact hc⟩
      rw [List.eq_nil_of_length_eq_zero e] at hm
      cases hm
  · intro hn
    cases hc : whL (bkT ts) (dP ts r a all) 16 with
    | nil => rfl
    | cons y l =>
      exfalso
      have hm : y ∈ whL (bkT ts) (dP ts r a all) 16 := by rw [hc]; exact List.mem_cons_self ..
      obtain ⟨g1, g2⟩ := (wh_mem h).1 hm
      unfold dP at g2
      simp only [Bool.and_eq_true, beq_iff_eq] at g2
      have := hn y g1 g2.1 g2.2.1
      have g3 : (rMu ts y || !all) = true := g2.2.2
      rw [this] at g3
      cases g3
theorem Inv.lend (h : Inv ts) {r b t : Int} {mu : Bool} {a : Int} (hr : inH r) (hb : 0 ≤ b ∧ b ≤ 255) (ht : 0 ≤ t ∧ t ≤ 255) (ha : inH a) : Inv (lendT ts r b t mu a) := by
  cases hk : lendOk ts r b t mu a with
  | false => unfold lendT; rw [hk]; exact h
  | true =>
    have e0 : lendT ts r b t mu a = newT ts r b t mu a := by unfold lendT; rw [if_pos hk]
    rw [e0]
    unfold lendOk at hk
    simp only [Bool.and_eq_true, decide_eq_true_eq] at hk
    obtain ⟨hm, ho, hs16⟩ := hk
    have hib := issue_bk h.ok.bk
    obtain ⟨hi1, hi2⟩ := issue_in h.ok
    have hq : sl (issueI (bkT ts)) < 16 := by unfold sl; omega
    obtain ⟨p1, p2, p3⟩ := put_bk (bs := issueB (bkT ts)) h.ok.sz hib.sz
    obtain ⟨q1, q2, q3⟩ := put_tk (q := sl (issueI (bkT ts))) (l := [.int .u32 r, .int .u8 b, .int .u8 t, .bool mu, .int .u32 a]) p1 hq rfl
    have eb : bkT (newT ts r b t mu a) = issueB (bkT ts) := q2.trans p2
    have et : ∀ i, i < 16 → tk5 (newT ts r b t mu a) i = if i = sl (issueI (bkT ts)) then #[.int .u32 r, .int .u8 b, .int .u8 t, .bool mu, .int .u32 a] else tk5 ts i := fun i hi => by
      show tk5 (putAt _ _ _) i = _
      rw [q3 i hi]
      split
      · rfl
      · exact p3 i hi
    rcases issue_cases (bs := bkT ts) with ⟨_, _, _, e⟩ | ⟨q, c1, c2, c3, c4, c5, _⟩
    · rw [ho] at e; cases e
    have hqq : sl (issueI (bkT ts)) = q := by rw [c4]; exact slotI_name c1 (h.ok.bk.ra q c1)
    have hg : ∀ y, gd (newT ts r b t mu a) y ↔ gd ts y ∨ y = issueI (bkT ts) := by
      intro y
      show goodB (bkT (newT ts r b t mu a)) y = true ↔ _
      rw [eb, issue_good h.ok.bk, ho, Bool.true_and, Bool.or_eq_true, decide_eq_true_eq]
      exact Iff.rfl
    have hold : ∀ y, gd ts y → sl y ≠ sl (issueI (bkT ts)) := by
      intro y hy e
      obtain ⟨_, _, _, _, s5, _⟩ := good_slot h.ok hy
      rw [e, hqq, c2] at s5
      cases s5
    have hnew : ¬ gd ts (issueI (bkT ts)) := fun hy => hold _ hy rfl
    have told : ∀ y, gd ts y → tk5 (newT ts r b t mu a) (sl y) = tk5 ts (sl y) := fun y hy => by
      rw [et _ (good_slot h.ok hy).2.2.1, if_neg (hold y hy)]
    have tnew : tk5 (newT ts r b t mu a) (sl (issueI (bkT ts))) = #[.int .u32 r, .int .u8 b, .int .u8 t, .bool mu, .int .u32 a] := by rw [et _ hq, if_pos rfl]
    have ok' : TsOk (newT ts r b t mu a) := by
      refine ⟨q1, by rw [eb]; exact hib, fun i hi => ?_, fun i h1 h2 => ?_⟩
      · rw [et i hi]
        split
        · exact ⟨rfl, rfl, rfl, rfl, rfl, hr, hb, ht, ha⟩
        · exact h.ok.tk i hi
      · rw [eb, c3, kind_set h.ok.bk.sz c1, if_neg (by omega)]
        exact h.ok.hi i h1 h2
    -- what may be
    have m1 : goodT ts a = true := by
      cases c : goodT ts a with
      | true => rfl
      | false => unfold mayE at hm; rw [if_pos c] at hm; cases hm
    have m2 : mayBad r b t = false := by
      cases c : mayBad r b t with
      | false => rfl
      | true => unfold mayE at hm; rw [m1, if_neg (by simp), if_pos c] at hm; cases hm
    have m3 : mayUp ts r b mu a = false := by
      cases c : mayUp ts r b mu a with
      | false => rfl
      | true => unfold mayE at hm; rw [m1, m2, if_neg (by simp), if_neg (by simp), if_pos c] at hm; cases hm
    have m4 : freeB ts r a (!mu) = true := by
      cases c : freeB ts r a (!mu) with
      | true => rfl
      | false => unfold mayE at hm; rw [m1, m2, m3, c, if_neg (by simp), if_neg (by simp), if_neg (by simp), if_neg (by simp)] at hm; cases hm
    have hfree := (free_iff h.ok).1 m4
    have hup : a ≠ 0 → gd ts a ∧ rR ts a = r ∧ (mu = true → rMu ts a = true) := by
      intro ha0
      have hga : goodB (bkT ts) a = true := by
        unfold goodT at m1
        rw [Bool.or_eq_true] at m1
        exact m1.resolve_left (by simpa using ha0)
      unfold mayUp at m3
      rw [hga, Bool.true_and, Bool.or_eq_false_iff, Bool.or_eq_false_iff] at m3
      refine ⟨hga, (show tR ts (sl a) = r by simpa using m3.1), fun e => ?_⟩
      have := m3.2.2
      rw [e, Bool.true_and] at this
      show tM ts (sl a) = true
      simpa using this
    have hbt : b ≠ t := by
      unfold mayBad at m2
      rw [Bool.or_eq_false_iff, Bool.or_eq_false_iff, Bool.or_eq_false_iff] at m2
      simpa using m2.2.2.1
    generalize hH : issueI (bkT ts) = H at *
    generalize hts' : newT ts r b t mu a = ts' at *
    have oR : ∀ y, gd ts y → rR ts' y = rR ts y := fun y hy => by show intAt _ _ = intAt _ _; rw [told y hy]
    have oA : ∀ y, gd ts y → rA ts' y = rA ts y := fun y hy => by show intAt _ _ = intAt _ _; rw [told y hy]
    have oM : ∀ y, gd ts y → rMu ts' y = rMu ts y := fun y hy => by show boolAt _ _ = boolAt _ _; rw [told y hy]
    have nR : rR ts' H = r := by show intAt _ _ = _; rw [tnew]; rfl
    have nA : rA ts' H = a := by show intAt _ _ = _; rw [tnew]; rfl
    have nM : rMu ts' H = mu := by show boolAt _ _ = _; rw [tnew]; rfl
    refine ⟨ok', fun x hx h0 => ?_, fun x hx hmx h0 => ?_, fun x y hx hy e1 e2 hmx => ?_, fun x hx => ?_, ?_⟩
    · rcases (hg x).1 hx with hx | rfl
      · rw [oA x hx] at h0 ⊢
        obtain ⟨g1, g2⟩ := h.reg x hx h0
        rw [oR x hx, oR _ g1]
        exact ⟨(hg _).2 (.inl g1), g2⟩
      · rw [nA] at h0 ⊢
        obtain ⟨g1, g2, _⟩ := hup h0
        rw [nR, oR a g1]
        exact ⟨(hg _).2 (.inl g1), g2⟩
    · rcases (hg x).1 hx with hx | rfl
      · rw [oA x hx] at h0 ⊢
        rw [oM x hx] at hmx
        rw [oM _ (h.reg x hx h0).1]
        exact h.mt x hx hmx h0
      · rw [nA] at h0 ⊢
        rw [nM] at hmx
        obtain ⟨g1, _, g3⟩ := hup h0
        rw [oM a g1]
        exact g3 hmx
    · rcases (hg x).1 hx with hx | rfl
      · rw [oR x hx] at e1
        rw [oA x hx] at e2
        rw [oM x hx] at hmx
        rcases (hg y).1 hy with hy | rfl
        · rw [oR y hy] at e1
          rw [oA y hy] at e2
          exact h.only x y hx hy e1 e2 hmx
        · rw [nR] at e1
          rw [nA] at e2
          have := hfree x hx e1 e2
          rw [hmx] at this
          cases this
      · rcases (hg y).1 hy with hy | e
        · rw [nR, oR y hy] at e1
          rw [nA, oA y hy] at e2
          rw [nM] at hmx
          have := hfree y hy e1.symm e2.symm
          rw [hmx] at this
          simp at this
        · exact e.symm
    · rcases (hg x).1 hx with hx | rfl
      · show intAt _ _ ≠ intAt _ _
        rw [told x hx]
        exact h.ne x hx
      · show intAt _ _ ≠ intAt _ _
        rw [tnew]
        exact hbt
    · obtain ⟨f, B, k1, k2⟩ := h.rk
      refine ⟨fun x => if x = H then (if a = 0 then 0 else f a + 1) else f x, B + 1, fun x hx => ?_, fun x hx h0 => ?_⟩
      · dsimp only
        rcases (hg x).1 hx with hx | rfl
        · have := k1 x hx
          rw [if_neg (fun e : x = H => hnew (e ▸ hx))]; omega
        · rw [if_pos rfl]
          split
          · omega
          · rename_i ha0
            have := k1 a (hup ha0).1
            omega
      · dsimp only
        rcases (hg x).1 hx with hx | rfl
        · rw [oA x hx] at h0 ⊢
          have hne : rA ts x ≠ H := fun e => hnew (e ▸ (h.reg x hx h0).1)
          rw [if_neg hne, if_neg (fun e : x = H => hnew (e ▸ hx))]
          exact k2 x hx h0
        · rw [nA] at h0 ⊢
          have hne : a ≠ x := fun e => hnew (e ▸ (hup h0).1)
          rw [if_neg hne, if_pos rfl, if_neg h0]
          omega
end
end Go.Proofs.Ytnjmockpdmchcaa
/- Of token: of a region at most one may write. No condition. -/
namespace Go.Proofs.Ytnjmockpdmchcaa
set_option maxRecDepth 100000
set_option linter.unusedSimpArgs false
set_option linter.unusedVariables false
section
variable {ts : Array Value} {g : Int}
theorem writes_free (h : Inv ts) {u : Int} (hw : writesB ts g u = true) : ∀ y, gd ts y → rR ts y = g → rA ts y = u → False := by
  unfold writesB at hw
  rw [Bool.and_eq_true] at hw
  intro y hy h1 h2
  have := (free_iff h.ok).1 hw.2 y hy h1 h2
  simp at this
theorem reads_free (h : Inv ts) {v : Int} (hr : readsB ts g v = true) : ∀ y, gd ts y → rR ts y = g → rA ts y = v → rMu ts y = false := by
  unfold readsB at hr
  rw [Bool.and_eq_true] at hr
  intro y hy h1 h2
  have := (free_iff h.ok).1 hr.2 y hy h1 h2
  simpa using this
theorem reads_of (h : Inv ts) {v : Int} (hv : v = 0 ∨ v ∈ onL ts g) (hn : ∀ y, gd ts y → rR ts y = g → rA ts y = v → rMu ts y = false) : readsB ts g v = true := by
  unfold readsB
  rw [Bool.and_eq_true]
  refine ⟨?_, (free_iff h.ok).2 fun y hy h1 h2 => by rw [hn y hy h1 h2]; rfl⟩
  unfold goodT
  rcases hv with rfl | hv
  · rfl
  · have : goodB (bkT ts) v = true := ((on_mem h.ok).1 hv).1
    rw [this, Bool.or_true]
theorem writes_reads {u : Int} (h : Inv ts) (hv : u = 0 ∨ u ∈ onL ts g) (hw : writesB ts g u = true) : readsB ts g u = true :=
  reads_of h hv fun y hy h1 h2 => (writes_free h hw y hy h1 h2).elim
/-- Who lends it, up to the owner. -/
inductive Ch (ts : Array Value) (u : Int) : Int → Prop
  | self : Ch ts u u
  | up {c : Int} : Ch ts u c → c ≠ 0 → Ch ts u (rA ts c)
theorem Ch.last {u v : Int} (h : Ch ts u v) : v = u ∨ ∃ c, Ch ts u c ∧ c ≠ 0 ∧ rA ts c = v := by
  cases h with
  | self => exact .inl rfl
  | up h1 h2 => exact .inr ⟨_, h1, h2, rfl⟩
def IsW (ts : Array Value) (g u : Int) : Prop := (u = 0 ∨ (u ∈ onL ts g ∧ rMu ts u = true)) ∧ writesB ts g u = true
theorem chain_props (h : Inv ts) {u : Int} (hu : IsW ts g u) {c : Int} (hc : Ch ts u c) : c ≠ 0 → gd ts c ∧ rR ts c = g ∧ rMu ts c = true := by
  induction hc with
  | self =>
    intro h0
    rcases hu.1 with e | ⟨e1, e2⟩
    · exact absurd e h0
    · exact ⟨((on_mem h.ok).1 e1).1, ((on_mem h.ok).1 e1).2, e2⟩
  | up _ hne ih =>
    intro h0
    obtain ⟨a1, a2, a3⟩ := ih hne
    obtain ⟨b1, b2⟩ := h.reg _ a1 h0
    exact ⟨b1, b2.trans a2, h.mt _ a1 a3 h0⟩
theorem chain_zero (h : Inv ts) {u : Int} (hu : IsW ts g u) : Ch ts u 0 := by
  obtain ⟨f, B, k1, k2⟩ := h.rk
  have key : ∀ (n : Nat) (c : Int), Ch ts u c → f c ≤ n → Ch ts u 0 := by
    intro n
    induction n with
    | zero =>
      intro c hc hf
      by_cases h0 : c = 0
      · rw [← h0]; exact hc
      · have hup := hc.up h0
        by_cases ha : rA ts c = 0
        · rw [← ha]; exact hup
        · have := k2 c (chain_props h hu hc h0).1 ha; omega
    | succ n ih =>
      intro c hc hf
      by_cases h0 : c = 0
      · rw [← h0]; exact hc
      · have hup := hc.up h0
        by_cases ha : rA ts c = 0
        · rw [← ha]; exact hup
        · have := k2 c (chain_props h hu hc h0).1 ha
          exact ih _ hup (by omega)
  exact key _ u .self (Nat.le_refl _)
theorem chain_all (h : Inv ts) {u : Int} (hu : IsW ts g u) {v : Int} (hv : v = 0 ∨ v ∈ onL ts g) : Ch ts u v := by
  obtain ⟨f, B, k1, k2⟩ := h.rk
  have h0 := chain_zero h hu
  have step : ∀ v, gd ts v → rR ts v = g → Ch ts u (rA ts v) → Ch ts u v := by
    intro v g1 g2 hp
    rcases hp.last with e | ⟨c, c1, c2, c3⟩
    · exact (writes_free h hu.2 v g1 g2 e).elim
    · obtain ⟨a1, a2, a3⟩ := chain_props h hu c1 c2
      have := h.only c v a1 g1 (a2.trans g2.symm) c3 a3
      rw [← this]; exact c1
  have key : ∀ (n : Nat) (v : Int), gd ts v → rR ts v = g → f v ≤ n → Ch ts u v := by
    intro n
    induction n with
    | zero =>
      intro v g1 g2 hf
      refine step v g1 g2 ?_
      by_cases ha : rA ts v = 0
      · rw [ha]; exact h0
      · have := k2 v g1 ha; omega
    | succ n ih =>
      intro v g1 g2 hf
      refine step v g1 g2 ?_
      by_cases ha : rA ts v = 0
      · rw [ha]; exact h0
      · obtain ⟨b1, b2⟩ := h.reg v g1 ha
        have := k2 v g1 ha
        exact ih _ b1 (b2.trans g2) (by omega)
  rcases hv with rfl | hv
  · exact h0
  · obtain ⟨g1, g2⟩ := (on_mem h.ok).1 hv
    exact key _ v g1 g2 (Nat.le_refl _)
/-- If one may write, nobody else may read. -/
theorem one_reader (h : Inv ts) {u : Int} (hu : IsW ts g u) {v : Int} (hv : v = 0 ∨ v ∈ onL ts g) (hr : readsB ts g v = true) : v = u := by
  rcases (chain_all h hu hv).last with e | ⟨c, c1, c2, c3⟩
  · exact e
  · obtain ⟨a1, a2, a3⟩ := chain_props h hu c1 c2
    have := reads_free h hr c a1 a2 c3
    rw [a3] at this
    cases this
theorem some_reader (h : Inv ts) : ∃ v, (v = 0 ∨ v ∈ onL ts g) ∧ readsB ts g v = true := by
  obtain ⟨f, B, k1, k2⟩ := h.rk
  have key : ∀ (n : Nat) (x : Int), x ∈ onL ts g → B - f x ≤ n → ∃ v, (v = 0 ∨ v ∈ onL ts g) ∧ readsB ts g v = true := by
    intro n
    induction n with
    | zero =>
      intro x hx hn
      by_cases hc : ∃ y, gd ts y ∧ rR ts y = g ∧ rA ts y = x ∧ rMu ts y = true
      · obtain ⟨y, y1, y2, y3, y4⟩ := hc
        have hx0 : x ≠ 0 := fun e => by have := (good_slot h.ok ((on_mem h.ok).1 hx).1).2.2.2.2.2.2.2; omega
        have e1 := k2 y y1 (by rw [y3]; exact hx0)
        rw [y3] at e1
        have := k1 y y1
        omega
      · exact ⟨x, .inr hx, reads_of h (.inr hx) fun y y1 y2 y3 => by
          cases c : rMu ts y with
          | false => rfl
          | true => exact absurd ⟨y, y1, y2, y3, c⟩ hc⟩
    | succ n ih =>
      intro x hx hn
      by_cases hc : ∃ y, gd ts y ∧ rR ts y = g ∧ rA ts y = x ∧ rMu ts y = true
      · obtain ⟨y, y1, y2, y3, y4⟩ := hc
        have hx0 : x ≠ 0 := fun e => by have := (good_slot h.ok ((on_mem h.ok).1 hx).1).2.2.2.2.2.2.2; omega
        have e1 := k2 y y1 (by rw [y3]; exact hx0)
        rw [y3] at e1
        have := k1 y y1
        exact ih y ((on_mem h.ok).2 ⟨y1, y2⟩) (by omega)
      · exact ⟨x, .inr hx, reads_of h (.inr hx) fun y y1 y2 y3 => by
          cases c : rMu ts y with
          | false => rfl
          | true => exact absurd ⟨y, y1, y2, y3, c⟩ hc⟩
  by_cases hc : ∃ y, gd ts y ∧ rR ts y = g ∧ rA ts y = 0 ∧ rMu ts y = true
  · obtain ⟨y, y1, y2, y3, y4⟩ := hc
    exact key _ y ((on_mem h.ok).2 ⟨y1, y2⟩) (Nat.le_refl _)
  · exact ⟨0, .inl rfl, reads_of h (.inl rfl) fun y y1 y2 y3 => by
      cases c : rMu ts y with
      | false => rfl
      | true => exact absurd ⟨y, y1, y2, y3, c⟩ hc⟩
/-! Counts. -/
def cnt (p : Int → Bool) : List Int → Nat
  | [] => 0
  | x :: l => (if p x = true then 1 else 0) + cnt p l
theorem cnt_mono {p q : Int → Bool} : ∀ {l : List Int}, (∀ x ∈ l, p x = true → q x = true) → cnt p l ≤ cnt q l
  | [], _ => Nat.le_refl _
  | x :: l, h => by
    have ih := cnt_mono (l := l) fun y hy => h y (List.mem_cons_of_mem _ hy)
    have hx := h x (List.mem_cons_self ..)
    unfold cnt
    split
    · rename_i e; rw [if_pos (hx e)]; omega
    · split <;> omega
theorem cnt_pos {p : Int → Bool} {x : Int} (hp : p x = true) : ∀ {l : List Int}, x ∈ l → 1 ≤ cnt p l
  | y :: l, h => by
    unfold cnt
    rcases List.mem_cons.1 h with rfl | h
    · rw [if_pos hp]; omega
    · have := cnt_pos hp h; omega
theorem cnt_some {p : Int → Bool} : ∀ {l : List Int}, 1 ≤ cnt p l → ∃ x ∈ l, p x = true
  | [], h => by unfold cnt at h; omega
  | x :: l, h => by
    unfold cnt at h
    split at h
    · rename_i e; exact ⟨x, List.mem_cons_self .., e⟩
    · obtain ⟨y, h1, h2⟩ := cnt_some (p := p) (l := l) (by omega)
      exact ⟨y, List.mem_cons_of_mem _ h1, h2⟩
theorem cnt_none {p : Int → Bool} : ∀ {l : List Int}, (∀ x ∈ l, p x = false) → cnt p l = 0
  | [], _ => rfl
  | x :: l, h => by
    unfold cnt
    rw [h x (List.mem_cons_self ..), cnt_none fun y hy => h y (List.mem_cons_of_mem _ hy)]
    rfl
theorem cnt_one {p : Int → Bool} {u : Int} : ∀ {l : List Int}, l.Nodup → (∀ x ∈ l, p x = true → x = u) → cnt p l ≤ 1
  | [], _, _ => by unfold cnt; omega
  | x :: l, hn, h => by
    rw [List.nodup_cons] at hn
    unfold cnt
    split
    · rename_i e
      have hx := h x (List.mem_cons_self ..) e
      rw [cnt_none fun y hy => by
        cases c : p y with
        | false => rfl
        | true =>
          have := h y (List.mem_cons_of_mem _ hy) c
          rw [this, ← hx] at hy
          exact absurd hy hn.1]
      omega
    · have := cnt_one hn.2 fun y hy => h y (List.mem_cons_of_mem _ hy)
      omega
theorem cnt_app {p : Int → Bool} : ∀ {l : List Int} {x : Int}, cnt p (l ++ [x]) = cnt p l + (if p x = true then 1 else 0)
  | [], x => by simp [cnt]
  | y :: l, x => by
    show (if p y = true then 1 else 0) + cnt p (l ++ [x]) = _
    rw [cnt_app]
    show _ = (if p y = true then 1 else 0) + cnt p l + _
    omega
theorem cnt_le {p : Int → Bool} : ∀ {l : List Int}, cnt p l ≤ l.length
  | [] => Nat.le_refl _
  | x :: l => by
    have := cnt_le (p := p) (l := l)
    unfold cnt
    rw [List.length_cons]
    split <;> omega
def wB (ts : Array Value) (g x : Int) : Bool := rMu ts x && writesB ts g x
def b2n (b : Bool) : Nat := if b = true then 1 else 0
/-- So many may write, so many may read: the owner, and of so many tokens. -/
def nW (ts : Array Value) (g : Int) (j : Nat) : Nat := b2n (writesB ts g 0) + cnt (wB ts g) ((onL ts g).take j)
def nR (ts : Array Value) (g : Int) (j : Nat) : Nat := b2n (readsB ts g 0) + cnt (readsB ts g) ((onL ts g).take j)
theorem nW_succ {j : Nat} (hj : j < (onL ts g).length) : nW ts g (j + 1) = nW ts g j + b2n (wB ts g ((onL ts g).getD j 0)) := by
  unfold nW
  rw [List.take_add_one, List.getElem?_eq_getElem hj, List.getD_eq_getElem?_getD, List.getElem?_eq_getElem hj]
  simp only [Option.toList_some, Option.getD_some]
  rw [cnt_app]
  unfold b2n
  omega
theorem nR_succ {j : Nat} (hj : j < (onL ts g).length) : nR ts g (j + 1) = nR ts g j + b2n (readsB ts g ((onL ts g).getD j 0)) := by
  unfold nR
  rw [List.take_add_one, List.getElem?_eq_getElem hj, List.getD_eq_getElem?_getD, List.getElem?_eq_getElem hj]
  simp only [Option.toList_some, Option.getD_some]
  rw [cnt_app]
  unfold b2n
  omega
theorem n_le (ts : Array Value) (g : Int) (j : Nat) : nW ts g j ≤ 1 + j ∧ nR ts g j ≤ 1 + j := by
  have h1 := cnt_le (p := wB ts g) (l := (onL ts g).take j)
  have h2 := cnt_le (p := readsB ts g) (l := (onL ts g).take j)
  have h3 : ((onL ts g).take j).length ≤ j := by rw [List.length_take]; omega
  unfold nW nR b2n
  constructor <;> split <;> omega
theorem one_writer (h : Inv ts) (g : Int) : nW ts g (onL ts g).length ≤ 1 ∧ (nW ts g (onL ts g).length = 1 → nR ts g (onL ts g).length ≤ 1) ∧ 1 ≤ nR ts g (onL ts g).length := by
  have eR : nR ts g (onL ts g).length = cnt (readsB ts g) (0 :: onL ts g) := by
    unfold nR
    rw [List.take_length]
    rfl
  have h0 : (0 : Int) ∉ onL ts g := fun hm => by have := (good_slot h.ok ((on_mem h.ok).1 hm).1).2.2.2.2.2.2.2; omega
  have hnd : (0 :: onL ts g).Nodup := List.nodup_cons.2 ⟨h0, wh_nodup h.ok (Nat.le_refl _)⟩
  have hmem : ∀ x, x ∈ 0 :: onL ts g → x = 0 ∨ x ∈ onL ts g := fun x hx => List.mem_cons.1 hx
  have hle : nW ts g (onL ts g).length ≤ nR ts g (onL ts g).length := by
    unfold nW nR
    have h1 : cnt (wB ts g) ((onL ts g).take (onL ts g).length) ≤ cnt (readsB ts g) ((onL ts g).take (onL ts g).length) := by
      rw [List.take_length]
      refine cnt_mono fun x hx hp => ?_
      unfold wB at hp
      rw [Bool.and_eq_true] at hp
      exact writes_reads h (.inr hx) hp.2
    have h2 : b2n (writesB ts g 0) ≤ b2n (readsB ts g 0) := by
      unfold b2n
      split
      · rename_i e; rw [if_pos (writes_reads h (.inl rfl) e)]; omega
      · omega
    omega
  have hone : 1 ≤ nW ts g (onL ts g).length → nR ts g (onL ts g).length ≤ 1 := by
    intro hw
    have hu : ∃ u, IsW ts g u := by
      unfold nW b2n at hw
      split at hw
      · rename_i e; exact ⟨0, .inl rfl, e⟩
      · rw [List.take_length] at hw
        obtain ⟨x, hx, hp⟩ := cnt_some (p := wB ts g) (l := onL ts g) (by omega)
        unfold wB at hp
        rw [Bool.and_eq_true] at hp
        exact ⟨x, .inr ⟨hx, hp.1⟩, hp.2⟩
    obtain ⟨u, hu⟩ := hu
    rw [eR]
    exact cnt_one hnd fun x hx hp => one_reader h hu (hmem x hx) hp
  refine ⟨?_, fun e => hone (by omega), ?_⟩
  · rcases Nat.lt_or_ge 0 (nW ts g (onL ts g).length) with c | c
    · have := hone c; omega
    · omega
  · obtain ⟨v, hv, hp⟩ := some_reader (g := g) h
    rw [eR]
    exact cnt_pos hp (List.mem_cons.2 hv)
end
end Go.Proofs.Ytnjmockpdmchcaa
/- Of token: TokenOneWriter: its runs end with true. No condition. -/
namespace Go.Proofs.Ytnjmockpdmchcaa
set_option maxRecDepth 100000
set_option linter.unusedSimpArgs false
set_option linter.unusedVariables false
theorem conL_ok : ∀ g l m t, conL g l m = some t → Con E0 g l m t := by
  intro g l m t h
  unfold conL at h
  split at h
  · cases h; exact wakes_con m
  · rename_i ts x; cases h
    refine Con.args (l' := [tkS ts, u32 x.den]) (fun R vs ha => by
      match vs, ha with
      | [v, w], ha => exact ⟨ha.1, ha.2.1, trivial⟩) ?_
    exact return_con x.den m
  · rename_i ts r; cases h
    refine Con.asked fun hq => Con.args (l' := [tkS ts, u32 r.den]) (fun R vs ha => by
      match vs, ha with
      | [v, w], ha => exact ⟨ha.1, ha.2.1, trivial⟩) ?_
    intro A hs
    exact clear_con r.den m A ⟨fun p hp => hq p hp, hs⟩
  · rename_i ts r b t' mu a; cases h
    refine Con.asked fun hq => Con.args (l' := [tkS ts, tokS r.den b.den t'.den mu.den a.den]) (fun R vs ha => by
      match vs, ha with
      | [v, w], ⟨h0, ⟨cs, e, h1⟩, _⟩ =>
        refine ⟨h0, ⟨cs, e, ?_⟩, trivial⟩
        have h1 : All2 (SC.ok R) [.f (.int .u32 r), .f (.int .u8 b), .f (.int .u8 t'), .f (.bool mu), .f (.int .u32 a)] cs.toList := h1
        show All2 (SC.ok R) [.f (.int .u32 (.o r.den)), .f (.int .u8 (.o b.den)), .f (.int .u8 (.o t'.den)), .f (.bool (.o mu.den)), .f (.int .u32 (.o a.den))] cs.toList
        revert h1
        generalize cs.toList = l
        intro h1
        match l, h1 with
        | [a0, a1, a2, a3, a4], h1 => exact h1) ?_
    intro A hs
    exact lend_con r.den b.den t'.den mu.den a.den m A ⟨fun p hp => hq p hp, hs⟩
  · exact conU_ok 0 _ _ _ _ h
theorem EL_ok : EnvOk EL := EnvOk.with E0_ok _ _ conL_ok
theorem EW_ok : EnvOk EW := EnvOk.with E0_ok _ _ conL_ok
/-- Acts, as they come in. -/
def ActOk (cs : Array Value) (p : Nat) : Prop := IsInt .u8 cs p ∧ IsInt .u32 cs (p + 1) ∧ IsInt .u32 cs (p + 2) ∧ IsInt .u8 cs (p + 3) ∧ IsInt .u8 cs (p + 4) ∧ IsBool cs (p + 5) ∧ IsInt .u32 cs (p + 6) ∧
  inH (intAt cs (p + 1)) ∧ inH (intAt cs (p + 2)) ∧ (0 ≤ intAt cs (p + 3) ∧ intAt cs (p + 3) ≤ 255) ∧ (0 ≤ intAt cs (p + 4) ∧ intAt cs (p + 4) ≤ 255) ∧ inH (intAt cs (p + 6))
def ActsOk (cs : Array Value) (off n : Nat) : Prop := ∀ i, i < n → ActOk cs (off + i * 7)
theorem zero_in : inH 0 := ⟨by decide, by decide⟩
section
variable {ts : Array Value}
theorem get_at (h : TsOk ts) {x : Int} (hx : gd ts x) : getE ts x = 0 ∧ (getC ts x).size = 5 ∧ IsInt .u32 (getC ts x) 0 ∧ intAt (getC ts x) 0 = rR ts x ∧ IsInt .u8 (getC ts x) 1 ∧ intAt (getC ts x) 1 = tB ts (sl x) ∧ IsInt .u8 (getC ts x) 2 ∧ intAt (getC ts x) 2 = tT ts (sl x) ∧ IsBool (getC ts x) 3 ∧ boolAt (getC ts x) 3 = rMu ts x := by
  have hg : goodB (bkT ts) x = true := hx
  have e1 : getE ts x = 0 := by unfold getE; rw [if_pos hg]
  have e2 : getC ts x = #[.int .u32 (tR ts (sl x)), .int .u8 (tB ts (sl x)), .int .u8 (tT ts (sl x)), .bool (tM ts (sl x)), .int .u32 (tA ts (sl x))] := by unfold getC; rw [if_pos hg]
  rw [e2]
  exact ⟨e1, rfl, rfl, rfl, rfl, rfl, rfl, rfl, rfl, rfl⟩
variable {cs : Array Value} {off n : Nat} {ty : TypeId}
theorem lE_ok (h : Inv ts) {i g : Nat} (hg1 : 1 ≤ g) (hg3 : g ≤ 3) (hi : i < 150) (h3 : g = 3 → Good Try.prog (isB true) 1 (lA_F off n cs ty ((i + 1 : Nat) : Int) ts) (lA_M off n cs ty ((i + 1 : Nat) : Int) ts))
    (h2 : g < 3 → Good Try.prog (isB true) 1 (lC_F off n cs ty ((g + 1 : Nat) : Int) (i : Int) ts) (lC_M off n cs ty ((g + 1 : Nat) : Int) (i : Int) ts)) :
    Good Try.prog (isB true) 1 (lE_F off n cs ty (g : Int) (nW ts (g : Int) (onL ts (g : Int)).length : Nat) (nR ts (g : Int) (onL ts (g : Int)).length : Nat) (i : Int) ts) (lE_M off n cs ty (g : Int) (nW ts (g : Int) (onL ts (g : Int)).length : Nat) (nR ts (g : Int) (onL ts (g : Int)).length : Nat) (i : Int) ts) := by
  obtain ⟨a1, a2, a3⟩ := one_writer h (g : Int)
  refine past_vc EL_ok 1000 (vE_vc off n cs ty (g : Int) _ _ (i : Int) ts (fun g' i' t' => g' = ((g + 1 : Nat) : Int) ∧ i' = (i : Int) ∧ t' = ts ∧ g < 3) (fun i' t' => i' = ((i + 1 : Nat) : Int) ∧ t' = ts ∧ g = 3)) ?_ (fun _ _ h => h)
    (fun fs m hb => vE_go (fun g' i' t' ⟨e1, e2, e3, e4⟩ => by rw [e1, e2, e3]; exact h2 e4) (fun i' t' ⟨e1, e2, e3⟩ => by rw [e1, e2]; exact h3 e3) hb)
  generalize nW ts (g : Int) (onL ts (g : Int)).length = w at *
  generalize nR ts (g : Int) (onL ts (g : Int)).length = r at *
  have ei : ari .add .i64 (i : Int) 1 = ((i + 1 : Nat) : Int) := by rw [ari_add, i64_in' (by omega) (by omega)]; omega
  have eg : ari .add .u32 (g : Int) 1 = ((g + 1 : Nat) : Int) := by rw [ari_add, u32_in (by omega) (by omega)]; omega
  have d1 : decide ((w : Int) > 1) = false := decide_eq_false (by omega)
  have d4 : ((r : Int) == 0) = false := beq_false_of_ne (by omega)
  cases c3 : decide (((g + 1 : Nat) : Int) ≤ 3) with
  | true =>
    have c3' := of_decide_eq_true c3
    cases c : ((w : Int) == 1) with
    | true =>
      have : w = 1 := by have := beq_iff_eq.1 c; omega
      have d3 : decide ((r : Int) > 1) = false := decide_eq_false (by have := a2 this; omega)
      simp only [ei, eg, c, c3, d1, d3, d4, beqT, beqF, Bool.not_true, Bool.not_false, true_implies, Bool.true_eq_false, Bool.false_eq_true, false_implies, and_true, true_and, lC_d0_ok, lA_d0_ok]
      omega
    | false =>
      simp only [ei, eg, c, c3, d1, d4, beqT, beqF, Bool.not_true, Bool.not_false, true_implies, Bool.true_eq_false, Bool.false_eq_true, false_implies, and_true, true_and, lC_d0_ok, lA_d0_ok]
      omega
  | false =>
    have c3' := of_decide_eq_false c3
    cases c : ((w : Int) == 1) with
    | true =>
      have : w = 1 := by have := beq_iff_eq.1 c; omega
      have d3 : decide ((r : Int) > 1) = false := decide_eq_false (by have := a2 this; omega)
      simp only [ei, eg, c, c3, d1, d3, d4, beqT, beqF, Bool.not_true, Bool.not_false, true_implies, Bool.true_eq_false, Bool.false_eq_true, false_implies, and_true, true_and, lC_d0_ok, lA_d0_ok]
      omega
    | false =>
      simp only [ei, eg, c, c3, d1, d4, beqT, beqF, Bool.not_true, Bool.not_false, true_implies, Bool.true_eq_false, Bool.false_eq_true, false_implies, and_true, true_and, lC_d0_ok, lA_d0_ok]
      omega
set_option maxHeartbeats 2000000 in
theorem lD_ok (h : Inv ts) {i g : Nat} (hE : Good Try.prog (isB true) 1 (lE_F off n cs ty (g : Int) (nW ts (g : Int) (onL ts (g : Int)).length : Nat) (nR ts (g : Int) (onL ts (g : Int)).length : Nat) (i : Int) ts) (lE_M off n cs ty (g : Int) (nW ts (g : Int) (onL ts (g : Int)).length : Nat) (nR ts (g : Int) (onL ts (g : Int)).length : Nat) (i : Int) ts)) :
    ∀ (q j : Nat), j + q + 1 = (onL ts (g : Int)).length → Good Try.prog (isB true) 1 (lD_F off n cs ty (g : Int) (nW ts (g : Int) j : Nat) (nR ts (g : Int) j : Nat) (j : Int) (i : Int) ts (onL ts (g : Int)).length (u32s (onL ts (g : Int)))) (lD_M off n cs ty (g : Int) (nW ts (g : Int) j : Nat) (nR ts (g : Int) j : Nat) (j : Int) (i : Int) ts (onL ts (g : Int)).length (u32s (onL ts (g : Int)))) := by
  have hle : (onL ts (g : Int)).length ≤ 16 := whL_le 16
  intro q
  induction q with
  | zero =>
    intro j hj
    refine past_vc EL_ok 1000 (vD_vc off n cs ty (g : Int) (nW ts (g : Int) j : Nat) (nR ts (g : Int) j : Nat) (j : Int) (i : Int) ts _ _ (fun _ _ _ _ _ _ _ _ => False) (fun g' w' r' i' t' => g' = (g : Int) ∧ w' = (nW ts (g : Int) (j + 1) : Nat) ∧ r' = (nR ts (g : Int) (j + 1) : Nat) ∧ i' = (i : Int) ∧ t' = ts)) ?_ (fun _ _ h => h)
      (fun fs m hb => vD_go (fun _ _ _ _ _ _ _ _ hf => hf.elim) (fun g' w' r' i' t' ⟨e1, e2, e3, e4, e5⟩ => by rw [e1, e2, e3, e4, e5, show j + 1 = (onL ts (g : Int)).length by omega]; exact hE) hb)
    have hj' : j < (onL ts (g : Int)).length := by omega
    have hu := u32s_at hj'
    have hm : (onL ts (g : Int)).getD j 0 ∈ onL ts (g : Int) := by rw [List.getD_eq_getElem?_getD, List.getElem?_eq_getElem hj']; exact List.getElem_mem _
    obtain ⟨hgx, hrx⟩ := (on_mem h.ok).1 hm
    have hx1 := (good_slot h.ok hgx).2.2.2.2.2.2.1
    have hne := h.ne _ hgx
    obtain ⟨g1, g2, g3, g4, g5, g6, g7, g8, g9, g10⟩ := get_at h.ok hgx
    have hW := nW_succ hj'
    have hR := nR_succ hj'
    obtain ⟨l1, l2⟩ := n_le ts (g : Int) j
    have ej : ari .add .i64 (j : Int) 1 = ((j + 1 : Nat) : Int) := by rw [ari_add, i64_in' (by omega) (by omega)]; omega
    have ew : ari .add .i64 ((nW ts (g : Int) j : Nat) : Int) 1 = ((nW ts (g : Int) j + 1 : Nat) : Int) := by rw [ari_add, i64_in' (by omega) (by omega)]; omega
    have er : ari .add .i64 ((nR ts (g : Int) j : Nat) : Int) 1 = ((nR ts (g : Int) j + 1 : Nat) : Int) := by rw [ari_add, i64_in' (by omega) (by omega)]; omega
    have d : decide (((j + 1 : Nat) : Int) < ((onL ts (g : Int)).length : Int)) = false := decide_eq_false (by omega)
    have hs := h.ok.sz
    have hok := h.ok
    have d1 : (rR ts ((onL ts (g : Int)).getD j 0) != (g : Int)) = false := by rw [hrx]; simp
    have d2 : (tB ts (sl ((onL ts (g : Int)).getD j 0)) == tT ts (sl ((onL ts (g : Int)).getD j 0))) = false := beq_false_of_ne hne
    have d3 : ((0 : Int) != 0) = false := rfl
    have hI : IsInt .u32 (u32s (onL ts (g : Int))) j := isI_of hu
    have hj0 : 0 ≤ (j : Int) := by omega
    have hjl : (j : Int) < ((onL ts (g : Int)).length : Int) := by omega
    have hx2 := hx1.1
    have hx3 := hx1.2
    simp only [Nat.zero_add, Nat.mul_one, Int.toNat_natCast, intAt_of hu, g1, g2, g4, g6, g8, g10, d1, d2, d3, hI, hj0, hjl, hx2, hx3, hok, hs, g3, g5, g7, g9, ej, ew, er, d, beqT, beqF, Bool.not_true, Bool.not_false, true_implies, Bool.true_eq_false, Bool.false_eq_true, false_implies, and_true, true_and, lD_d0_ok, lE_d0_ok]
    unfold wB at hW
    cases hmu : rMu ts ((onL ts (g : Int)).getD j 0)
    all_goals
      cases hw : writesB ts (g : Int) ((onL ts (g : Int)).getD j 0)
      all_goals
        cases hr : readsB ts (g : Int) ((onL ts (g : Int)).getD j 0)
        all_goals
          rw [hmu, hw] at hW
          rw [hr] at hR
          simp only [b2n, Bool.true_and, Bool.false_and, if_true, if_false, Bool.false_eq_true, Nat.add_zero] at hW hR
          simp only [hW, hR, true_implies, Bool.true_eq_false, Bool.false_eq_true, false_implies, and_true, true_and]
  | succ q ihq =>
    intro j hj
    refine past_vc EL_ok 1000 (vD_vc off n cs ty (g : Int) (nW ts (g : Int) j : Nat) (nR ts (g : Int) j : Nat) (j : Int) (i : Int) ts _ _ (fun g' w' r' j' i' t' k' c' => g' = (g : Int) ∧ w' = (nW ts (g : Int) (j + 1) : Nat) ∧ r' = (nR ts (g : Int) (j + 1) : Nat) ∧ j' = ((j + 1 : Nat) : Int) ∧ i' = (i : Int) ∧ t' = ts ∧ k' = (onL ts (g : Int)).length ∧ c' = u32s (onL ts (g : Int))) (fun _ _ _ _ _ => False)) ?_ (fun _ _ h => h)
      (fun fs m hb => vD_go (fun g' w' r' j' i' t' k' c' ⟨e1, e2, e3, e4, e5, e6, e7, e8⟩ => by rw [e1, e2, e3, e4, e5, e6, e7, e8]; exact ihq (j + 1) (by omega)) (fun _ _ _ _ _ hf => hf.elim) hb)
    have hj' : j < (onL ts (g : Int)).length := by omega
    have hu := u32s_at hj'
    have hm : (onL ts (g : Int)).getD j 0 ∈ onL ts (g : Int) := by rw [List.getD_eq_getElem?_getD, List.getElem?_eq_getElem hj']; exact List.getElem_mem _
    obtain ⟨hgx, hrx⟩ := (on_mem h.ok).1 hm
    have hx1 := (good_slot h.ok hgx).2.2.2.2.2.2.1
    have hne := h.ne _ hgx
    obtain ⟨g1, g2, g3, g4, g5, g6, g7, g8, g9, g10⟩ := get_at h.ok hgx
    have hW := nW_succ hj'
    have hR := nR_succ hj'
    obtain ⟨l1, l2⟩ := n_le ts (g : Int) j
    have ej : ari .add .i64 (j : Int) 1 = ((j + 1 : Nat) : Int) := by rw [ari_add, i64_in' (by omega) (by omega)]; omega
    have ew : ari .add .i64 ((nW ts (g : Int) j : Nat) : Int) 1 = ((nW ts (g : Int) j + 1 : Nat) : Int) := by rw [ari_add, i64_in' (by omega) (by omega)]; omega
    have er : ari .add .i64 ((nR ts (g : Int) j : Nat) : Int) 1 = ((nR ts (g : Int) j + 1 : Nat) : Int) := by rw [ari_add, i64_in' (by omega) (by omega)]; omega
    have d : decide (((j + 1 : Nat) : Int) < ((onL ts (g : Int)).length : Int)) = true := decide_eq_true (by omega)
    have hs := h.ok.sz
    have hok := h.ok
    have d1 : (rR ts ((onL ts (g : Int)).getD j 0) != (g : Int)) = false := by rw [hrx]; simp
    have d2 : (tB ts (sl ((onL ts (g : Int)).getD j 0)) == tT ts (sl ((onL ts (g : Int)).getD j 0))) = false := beq_false_of_ne hne
    have d3 : ((0 : Int) != 0) = false := rfl
    have hI : IsInt .u32 (u32s (onL ts (g : Int))) j := isI_of hu
    have hj0 : 0 ≤ (j : Int) := by omega
    have hjl : (j : Int) < ((onL ts (g : Int)).length : Int) := by omega
    have hx2 := hx1.1
    have hx3 := hx1.2
    simp only [Nat.zero_add, Nat.mul_one, Int.toNat_natCast, intAt_of hu, g1, g2, g4, g6, g8, g10, d1, d2, d3, hI, hj0, hjl, hx2, hx3, hok, hs, g3, g5, g7, g9, ej, ew, er, d, beqT, beqF, Bool.not_true, Bool.not_false, true_implies, Bool.true_eq_false, Bool.false_eq_true, false_implies, and_true, true_and, lD_d0_ok, lE_d0_ok]
    unfold wB at hW
    cases hmu : rMu ts ((onL ts (g : Int)).getD j 0)
    all_goals
      cases hw : writesB ts (g : Int) ((onL ts (g : Int)).getD j 0)
      all_goals
        cases hr : readsB ts (g : Int) ((onL ts (g : Int)).getD j 0)
        all_goals
          rw [hmu, hw] at hW
          rw [hr] at hR
          simp only [b2n, Bool.true_and, Bool.false_and, if_true, if_false, Bool.false_eq_true, Nat.add_zero] at hW hR
          simp only [hW, hR, true_implies, Bool.true_eq_false, Bool.false_eq_true, false_implies, and_true, true_and]
theorem lC_ok (h : Inv ts) {i g : Nat} (hE : Good Try.prog (isB true) 1 (lE_F off n cs ty (g : Int) (nW ts (g : Int) (onL ts (g : Int)).length : Nat) (nR ts (g : Int) (onL ts (g : Int)).length : Nat) (i : Int) ts) (lE_M off n cs ty (g : Int) (nW ts (g : Int) (onL ts (g : Int)).length : Nat) (nR ts (g : Int) (onL ts (g : Int)).length : Nat) (i : Int) ts)) :
    Good Try.prog (isB true) 1 (lC_F off n cs ty (g : Int) (i : Int) ts) (lC_M off n cs ty (g : Int) (i : Int) ts) := by
  refine past_vc EL_ok 1000 (vC_vc off n cs ty (g : Int) (i : Int) ts (fun g' w' r' j' i' t' k' c' => g' = (g : Int) ∧ w' = (nW ts (g : Int) 0 : Nat) ∧ r' = (nR ts (g : Int) 0 : Nat) ∧ j' = ((0 : Nat) : Int) ∧ i' = (i : Int) ∧ t' = ts ∧ k' = (onL ts (g : Int)).length ∧ c' = u32s (onL ts (g : Int)) ∧ 0 < (onL ts (g : Int)).length) (fun g' w' r' i' t' => g' = (g : Int) ∧ w' = (nW ts (g : Int) 0 : Nat) ∧ r' = (nR ts (g : Int) 0 : Nat) ∧ i' = (i : Int) ∧ t' = ts ∧ (onL ts (g : Int)).length = 0)) ?_ (fun _ _ h => h)
    (fun fs m hb => vC_go (fun g' w' r' j' i' t' k' c' ⟨e1, e2, e3, e4, e5, e6, e7, e8, e9⟩ => by rw [e1, e2, e3, e4, e5, e6, e7, e8]; exact lD_ok h hE ((onL ts (g : Int)).length - 1) 0 (by omega)) (fun g' w' r' i' t' ⟨e1, e2, e3, e4, e5, e6⟩ => by rw [e6] at hE; rw [e1, e2, e3, e4, e5]; exact hE) hb)
  have hs := h.ok.sz
  have hok := h.ok
  have e1 : whL (bkT ts) (aP ts (g : Int)) 16 = onL ts (g : Int) := rfl
  simp only [e1]
  cases c : decide ((onL ts (g : Int)).length = 0)
  all_goals
    cases hw : writesB ts (g : Int) 0
    all_goals
      cases hr : readsB ts (g : Int) 0
      all_goals
        have ew : nW ts (g : Int) 0 = b2n (writesB ts (g : Int) 0) := rfl
        have er : nR ts (g : Int) 0 = b2n (readsB ts (g : Int) 0) := rfl
        rw [hw] at ew
        rw [hr] at er
        have c' := c
        first
          | (have c' := of_decide_eq_true c
             simp only [c, hs, ew, er, b2n, if_true, if_false, Bool.false_eq_true, true_implies, Bool.true_eq_false, false_implies, and_true, true_and, lD_d0_ok, lE_d0_ok]
             repeat' first | exact hok | exact rfl | exact trivial | omega | apply And.intro)
          | (have c' := of_decide_eq_false c
             have d : decide ((0 : Int) < ((onL ts (g : Int)).length : Int)) = true := decide_eq_true (by omega)
             simp only [c, d, hs, ew, er, b2n, if_true, if_false, Bool.false_eq_true, true_implies, Bool.true_eq_false, false_implies, and_true, true_and, lD_d0_ok, lE_d0_ok]
             repeat' first | exact hok | exact rfl | exact trivial | omega | apply And.intro)
theorem lB_ok (h : Inv ts) {i : Nat} (hi : i < 150) (hA : Good Try.prog (isB true) 1 (lA_F off n cs ty ((i + 1 : Nat) : Int) ts) (lA_M off n cs ty ((i + 1 : Nat) : Int) ts)) : Good Try.prog (isB true) 1 (lB_F off n cs ty (i : Int) ts) (lB_M off n cs ty (i : Int) ts) := by
  have c3 : Good Try.prog (isB true) 1 (lC_F off n cs ty ((3 : Nat) : Int) (i : Int) ts) (lC_M off n cs ty ((3 : Nat) : Int) (i : Int) ts) := lC_ok h (lE_ok h (by omega) (by omega) hi (fun _ => hA) (fun hf => by omega))
  have c2 : Good Try.prog (isB true) 1 (lC_F off n cs ty ((2 : Nat) : Int) (i : Int) ts) (lC_M off n cs ty ((2 : Nat) : Int) (i : Int) ts) := lC_ok h (lE_ok h (by omega) (by omega) hi (fun hf => by omega) (fun _ => c3))
  have c1 : Good Try.prog (isB true) 1 (lC_F off n cs ty ((1 : Nat) : Int) (i : Int) ts) (lC_M off n cs ty ((1 : Nat) : Int) (i : Int) ts) := lC_ok h (lE_ok h (by omega) (by omega) hi (fun hf => by omega) (fun _ => c2))
  refine past_vc EL_ok 1000 (vB_vc off n cs ty (i : Int) ts (fun g' i' t' => g' = ((1 : Nat) : Int) ∧ i' = (i : Int) ∧ t' = ts)) ?_ (fun _ _ h => h)
    (fun fs m hb => vB_go (fun g' i' t' ⟨e1, e2, e3⟩ => by rw [e1, e2, e3]; exact c1) hb)
  simp only [and_true, true_and, lC_d0_ok]
  exact rfl
theorem rounds (ha : ActsOk cs off n) (hn : n ≤ 150) : ∀ (m i : Nat) (ts : Array Value), i ≤ n → n - i < m → Inv ts → Good Try.prog (isB true) 1 (lA_F off n cs ty (i : Int) ts) (lA_M off n cs ty (i : Int) ts) := by
  intro m
  induction m with
  | zero => intro i ts _ h; omega
  | succ m ih =>
    intro i ts hin hm h
    by_cases hi : i < n
    · refine past_vc EL_ok 1000 (vA_vc off n cs ty (i : Int) ts (fun i' t' => i' = (i : Int) ∧ Inv t')) ?_ (fun _ _ h => h)
        (fun fs m hb => vA_go (fun i' t' ⟨e1, e2⟩ => by rw [e1]; exact lB_ok e2 (by omega) (ih (i + 1) t' (by omega) (by omega) e2)) hb)
      have d0 : decide ((i : Int) < (n : Int)) = true := decide_eq_true (by omega)
      obtain ⟨a0, a1, a2, a3, a4, a5, a6, b1, b2, b3, b4, b6⟩ := ha i hi
      have hs := h.ok.sz
      have hok := h.ok
      have er : ari .add .u32 1 (ari .rem .u32 (intAt cs (off + i * 7 + 2)) 3) = 1 + intAt cs (off + i * 7 + 2) % 3 := by
        have := b2.1
        rw [ari_rem, Int.tmod_eq_emod_of_nonneg (by omega), ari_add, u32_in (by omega) (by omega)]
      have hr : inH (1 + intAt cs (off + i * 7 + 2) % 3) := by unfold inH; omega
      cases c0 : (intAt cs (off + i * 7) == 0) with
      | true =>
        cases hg : goodB (bkT ts) (intAt cs (off + i * 7 + 1)) with
        | true =>
          have hv := h.ret (x := intAt cs (off + i * 7 + 1)) hg
          have hvs := hv.ok.sz
          have hd := h.deep (x := intAt cs (off + i * 7 + 1)) hg
          simp only [Int.toNat_natCast, d0, c0, hg, hs, hvs, true_implies, Bool.true_eq_false, Bool.false_eq_true, false_implies, and_true, true_and, lB_d0_ok]
          repeat' first | exact hok | exact hv | exact hd | exact a0 | exact a1 | exact a2 | exact a3 | exact a4 | exact a5 | exact a6 | exact b1.1 | exact b1.2 | exact rfl | exact trivial | omega | apply And.intro
        | false =>
          simp only [Int.toNat_natCast, d0, c0, hg, hs, true_implies, Bool.true_eq_false, Bool.false_eq_true, false_implies, and_true, true_and, lB_d0_ok]
          repeat' first | exact hok | exact h | exact a0 | exact a1 | exact a2 | exact a3 | exact a4 | exact a5 | exact a6 | exact b1.1 | exact b1.2 | exact rfl | exact trivial | omega | apply And.intro
      | false =>
        cases c1 : (intAt cs (off + i * 7) == 1) with
        | true =>
          have hv := h.clear (1 + intAt cs (off + i * 7 + 2) % 3)
          have hvs := hv.ok.sz
          simp only [Int.toNat_natCast, d0, c0, c1, er, hs, hvs, true_implies, Bool.true_eq_false, Bool.false_eq_true, false_implies, and_true, true_and, lB_d0_ok]
          repeat' first | exact hok | exact hv | exact a0 | exact a1 | exact a2 | exact a3 | exact a4 | exact a5 | exact a6 | exact rfl | exact trivial | omega | apply And.intro
        | false =>
          have hv := h.lend (mu := boolAt cs (off + i * 7 + 5)) hr b3 b4 b6
          have hvs := hv.ok.sz
          simp only [Int.toNat_natCast, d0, c0, c1, er, hs, hvs, true_implies, Bool.true_eq_false, Bool.false_eq_true, false_implies, and_true, true_and, lB_d0_ok]
          repeat' first | exact hok | exact hv | exact a0 | exact a1 | exact a2 | exact a3 | exact a4 | exact a5 | exact a6 | exact b6.1 | exact b6.2 | exact rfl | exact trivial | omega | apply And.intro
    · refine past_vc EL_ok 1000 (vA_vc off n cs ty (i : Int) ts (fun _ _ => False)) ?_ (fun _ _ h => h) (fun fs m hb => vA_go (fun _ _ hf => hf.elim) hb)
      have d0 : decide ((i : Int) < (n : Int)) = false := decide_eq_false (by omega)
      simp only [d0, true_implies, Bool.true_eq_false, Bool.false_eq_true, false_implies, and_true, true_and]
end
end Go.Proofs.Ytnjmockpdmchcaa
/- Of token: TokenOneWriter: however it is called, it ends with true. No condition. -/
namespace Go.Proofs.Ytnjmockpdmchcaa
set_option maxRecDepth 100000
set_option linter.unusedSimpArgs false
set_option linter.unusedVariables false
def bkL : Nat → List Value
  | 0 => []
  | n + 1 => .int .u32 0 :: .int .u8 0 :: bkL n
theorem bkL_at : ∀ (n i : Nat), i < n → (bkL n)[i * 2]? = some (.int .u32 0) ∧ (bkL n)[i * 2 + 1]? = some (.int .u8 0)
  | n + 1, 0, _ => ⟨rfl, rfl⟩
  | n + 1, i + 1, h => by
    have := bkL_at n i (by omega)
    rw [show (i + 1) * 2 = i * 2 + 1 + 1 by omega]
    exact this
  | 0, _, h => by omega
theorem bkL_len : ∀ n, (bkL n).length = n * 2
  | 0 => rfl
  | n + 1 => by show (bkL n).length + 1 + 1 = _; rw [bkL_len]; omega
def z5 : List Value := [.int .u32 0, .int .u8 0, .int .u8 0, .bool false, .int .u32 0]
def tkL : Nat → List Value
  | 0 => []
  | n + 1 => .int .u32 0 :: .int .u8 0 :: .int .u8 0 :: .bool false :: .int .u32 0 :: tkL n
theorem tkL_at : ∀ (n i j : Nat), i < n → j < 5 → (tkL n)[i * 5 + j]? = z5[j]?
  | n + 1, 0, j, _, hj => by
    match j, hj with
    | 0, _ | 1, _ | 2, _ | 3, _ | 4, _ => rfl
  | n + 1, i + 1, j, h, hj => by
    have := tkL_at n i j (by omega) hj
    rw [show (i + 1) * 5 + j = i * 5 + j + 1 + 1 + 1 + 1 + 1 by omega]
    exact this
  | 0, _, _, h, _ => by omega
theorem tkL_len : ∀ n, (tkL n).length = n * 5
  | 0 => rfl
  | n + 1 => by show (tkL n).length + 1 + 1 + 1 + 1 + 1 = _; rw [tkL_len]; omega
/-- No tokens. -/
def zT : Array Value := (bkL 32 ++ tkL 16).toArray
theorem zT_size : zT.size = 144 := by
  unfold zT
  rw [List.size_toArray, List.length_append, bkL_len, tkL_len]
theorem zT_bk {k : Nat} (hk : k < 64) : zT[k]? = (bkL 32)[k]? := by
  unfold zT
  rw [List.getElem?_toArray, List.getElem?_append_left (by rw [bkL_len]; omega)]
theorem zT_tk {i j : Nat} (hi : i < 16) (hj : j < 5) : zT[64 + i * 5 + j]? = z5[j]? := by
  unfold zT
  rw [List.getElem?_toArray, List.getElem?_append_right (by rw [bkL_len]; omega), bkL_len, show 64 + i * 5 + j - 32 * 2 = i * 5 + j by omega]
  exact tkL_at 16 i j hi hj
theorem bkT_at {k : Nat} (hk : k < 64) : (bkT zT)[k]? = (bkL 32)[k]? := by
  unfold bkT
  rw [ext_get (by rw [zT_size]; omega) (by omega), Nat.zero_add, zT_bk hk]
theorem zT_kind {i : Nat} (hi : i < 32) : kindAt (bkT zT) i = 0 := by
  show intAt _ _ = 0
  exact intAt_of ((bkT_at (by omega)).trans (bkL_at 32 i hi).2)
theorem zT_age {i : Nat} (hi : i < 32) : ageAt (bkT zT) i = 0 := by
  show intAt _ _ = 0
  exact intAt_of ((bkT_at (by omega)).trans (bkL_at 32 i hi).1)
theorem zT_tk5 {i : Nat} (hi : i < 16) : tk5 zT i = #[.int .u32 0, .int .u8 0, .int .u8 0, .bool false, .int .u32 0] := by
  apply Array.ext_getElem?
  intro j
  by_cases c : j < 5
  · rw [tk5_get zT_size hi c, zT_tk hi c]
    match j, c with
    | 0, _ | 1, _ | 2, _ | 3, _ | 4, _ => rfl
  · rw [Array.getElem?_eq_none (by rw [tk5_size zT_size hi]; omega), Array.getElem?_eq_none (by show 5 ≤ j; omega)]
theorem zT_ok : TsOk zT := by
  refine ⟨zT_size, ⟨?_, fun i hi => isI_of ((bkT_at (by omega)).trans (bkL_at 32 i hi).1), fun i hi => isI_of ((bkT_at (by omega)).trans (bkL_at 32 i hi).2), fun i hi => by rw [zT_age hi]; omega, fun i hi => by rw [zT_kind hi]; omega⟩, fun i hi => by rw [zT_tk5 hi]; exact zero_tk, fun i _ hi => zT_kind hi⟩
  unfold bkT
  rw [ext_size (by rw [zT_size]; omega)]
theorem zT_inv : Inv zT := by
  have hno : ∀ x, ¬ gd zT x := by
    intro x hx
    obtain ⟨i, hi, hk, _⟩ := (goodB_iff zT_ok.bk).1 hx
    rw [zT_kind hi] at hk
    cases hk
  exact ⟨zT_ok, fun x hx => absurd hx (hno x), fun x hx => absurd hx (hno x), fun x y hx => absurd hx (hno x), fun x hx => absurd hx (hno x), fun _ => 0, 0, fun x hx => absurd hx (hno x), fun x hx => absurd hx (hno x)⟩
theorem zT_eq : #[.int .u32 0, .int .u8 0, .int .u32 0, .int .u8 0, .int .u32 0, .int .u8 0, .int .u32 0, .int .u8 0, .int .u32 0, .int .u8 0, .int .u32 0, .int .u8 0, .int .u32 0, .int .u8 0, .int .u32 0, .int .u8 0, .int .u32 0, .int .u8 0, .int .u32 0, .int .u8 0, .int .u32 0, .int .u8 0, .int .u32 0, .int .u8 0, .int .u32 0, .int .u8 0, .int .u32 0, .int .u8 0, .int .u32 0, .int .u8 0, .int .u32 0, .int .u8 0, .int .u32 0, .int .u8 0, .int .u32 0, .int .u8 0, .int .u32 0, .int .u8 0, .int .u32 0, .int .u8 0, .int .u32 0, .int .u8 0, .int .u32 0, .int .u8 0, .int .u32 0, .int .u8 0, .int .u32 0, .int .u8 0, .int .u32 0, .int .u8 0, .int .u32 0, .int .u8 0, .int .u32 0, .int .u8 0, .int .u32 0, .int .u8 0, .int .u32 0, .int .u8 0, .int .u32 0, .int .u8 0, .int .u32 0, .int .u8 0, .int .u32 0, .int .u8 0, .int .u32 0, .int .u8 0, .int .u8 0, .bool false, .int .u32 0, .int .u32 0, .int .u8 0, .int .u8 0, .bool false, .int .u32 0, .int .u32 0, .int .u8 0, .int .u8 0, .bool false, .int .u32 0, .int .u32 0, .int .u8 0, .int .u8 0, .bool false, .int .u32 0, .int .u32 0, .int .u8 0, .int .u8 0, .bool false, .int .u32 0, .int .u32 0, .int .u8 0, .int .u8 0, .bool false, .int .u32 0, .int .u32 0, .int .u8 0, .int .u8 0, .bool false, .int .u32 0, .int .u32 0, .int .u8 0, .int .u8 0, .bool false, .int .u32 0, .int .u32 0, .int .u8 0, .int .u8 0, .bool false, .int .u32 0, .int .u32 0, .int .u8 0, .int .u8 0, .bool false, .int .u32 0, .int .u32 0, .int .u8 0, .int .u8 0, .bool false, .int .u32 0, .int .u32 0, .int .u8 0, .int .u8 0, .bool false, .int .u32 0, .int .u32 0, .int .u8 0, .int .u8 0, .bool false, .int .u32 0, .int .u32 0, .int .u8 0, .int .u8 0, .bool false, .int .u32 0, .int .u32 0, .int .u8 0, .int .u8 0, .bool false, .int .u32 0, .int .u32 0, .int .u8 0, .int .u8 0, .bool false, .int .u32 0] = zT := by kernel_rfl
theorem one_row {cs : Array Value} {off n : Nat} {ty : TypeId} (ha : ActsOk cs off n) : Good Try.prog (isB true) 1 [callFr 4 Try.f4.ntmps [acS off n] (Try.f4.body.getD .skip)] (mkM 1 [(0, ⟨.raw cs, ty, false⟩)]) := by
  refine run_vc EL_ok 1000 (v0_vc off n cs ty (fun i z => i = ((0 : Nat) : Int) ∧ z = zT ∧ n ≤ 150)) ?_ (fun s m h => h)
    (fun fs m hb => v0_go (fun i z ⟨e1, e2, e3⟩ => by rw [e1, e2]; exact rounds ha e3 (n + 1) 0 zT (by omega) (by omega) zT_inv) hb)
  by_cases c : n > 150
  · have d : decide ((n : Int) > 150) = true := decide_eq_true (by omega)
    simp only [d, true_implies, Bool.true_eq_false, Bool.false_eq_true, false_implies, and_true, true_and]
  · have d : decide ((n : Int) > 150) = false := decide_eq_false (by omega)
    simp only [d, true_implies, Bool.true_eq_false, Bool.false_eq_true, false_implies, and_true, true_and, lA_d0_ok]
    repeat' first | exact zT_eq | exact rfl | omega | apply And.intro
theorem one_none : Good Try.prog (isB true) 1 [callFr 4 Try.f4.ntmps [eS] (Try.f4.body.getD .skip)] (mkM 1 []) :=
  run_vc EW_ok 1000 (vZ_vc 0) rfl (fun s m h => h) (fun fs m hb => hb.elim)
end Go.Proofs.Ytnjmockpdmchcaa
/- How a call of data enters the symbolic machine, and how what it leaves is told; without package-level variables. No condition. -/
namespace Go.Proofs.Ytnjmockpdmchcaa
noncomputable section
open Go.ChangeShapes Go.WideShapes Go.ChangeAt Go.RowKit Go.Deep

theorem own : ownKnob Try.prog.godebug = none := by kernel_rfl
theorem laidOut : laidOutB Try.prog = true := by kernel_rfl
theorem sub_get {l : List Value} {a b o : Nat} {v : Value} (h : ((l.drop a).take b)[o]? = some v) : l[a + o]? = some v := by
  rw [List.getElem?_take] at h
  split at h
  · rw [List.getElem?_drop] at h; exact h
  · cases h
theorem sub_one {l : List Value} {a b : Nat} {v : Value} (h : (l.drop a).take b = [v]) : l[a]? = some v := by
  have : ((l.drop a).take b)[0]? = some v := by rw [h]; rfl
  exact sub_get this
section
variable {H : Type} {enc : TypeId × Value → H} {P : Program} {w : World} {base : Nat} {spare : Nat → Bool} {held : Bool}
theorem field_of {t : TypeId} {fs : Array Field} {fuel : Nat} {cs : List Value} {x : DataW H × List MemPlace} (ht : P.underlying t = some (.struct fs)) (h : DataW.trod enc P w base spare held fuel t cs = some x)
    (i : Nat) {f : Field} (hf : fs[i]? = some f) : ∃ n y, DataW.trod enc P w base spare held n f.type ((cs.drop f.offset).take (P.cellsOf f.type)) = some y := by
  obtain ⟨ys, n, _, _, _, hyl, hg⟩ := DataW.trod_struct ht h
  have hlt : i < fs.size := (Array.getElem?_eq_some_iff.1 hf).1
  have hys : ys[i]? = some (ys[i]'(by omega)) := List.getElem?_eq_getElem (by omega)
  exact ⟨n, _, (hg i f hf).trans hys⟩
theorem add_none (b off n : Nat) : (⟨b, off, none⟩ : Addr).add n = ⟨b, off + n, none⟩ := by
  unfold Addr.add
  split
  · rename_i e; subst e; rfl
  · rfl
/-- A slice that came in: where it lies, and each element as it reads. -/
theorem slice_cells {t e : TypeId} {base' C : Nat} {fuel : Nat} {A : Option Addr} {len cap : Nat} {x : DataW H × List MemPlace} (ht : P.underlying t = some (.slice e)) (hC : P.cellsOf e = C)
    (hok : Value.okWide P w .any base t (.slice A len cap)) (h : DataW.trod enc P w base' (fun _ => true) held fuel t [.slice A len cap] = some x) :
    (A = none ∧ len = 0 ∧ cap = 0) ∨ ∃ b off cs ty fz, A = some ⟨b, off, none⟩ ∧ len ≤ cap ∧ cap ≤ maxLen ∧ w.heap[b]? = some (.cells cs ty fz) ∧
      ∀ j, j < len → ∃ n y, DataW.trod enc P w base' (fun _ => true) held n e ((cs.toList.drop (off + j * C)).take C) = some y := by
  rcases open_slice ht h with ⟨hcs, hx⟩ | ⟨a, len', cap', m, n, D, Pl, hcs, _, hl, hmx, hm, hx, hi⟩
  · simp at hcs
    exact .inl hcs
  · simp at hcs
    obtain ⟨rfl, rfl, rfl⟩ := hcs
    simp at hm
    subst hm
    obtain ⟨b, off, spot⟩ := a
    simp only [Value.okWide, ht, Cell.okWide, Cell.ok] at hok
    obtain ⟨_, _, _, hs, _, _, hsh, _⟩ := hok
    have hs : spot = none := hs
    subst hs
    cases ho : w.heap[b]? with
    | none => simp [World.shape?, ho] at hsh
    | some o =>
      have hcells : ∃ cs ty fz, o = .cells cs ty fz := by
        cases o <;> first | exact ⟨_, _, _, rfl⟩ | simp [World.shape?, ho] at hsh
      obtain ⟨cs, ty, fz, rfl⟩ := hcells
      refine .inr ⟨b, off, cs, ty, fz, rfl, hl, hmx, ho, fun j hj => ?_⟩
      obtain ⟨cs', hc, ht'⟩ := hi j (by omega)
      rw [hC] at hc
      obtain ⟨_, hcl, hat⟩ := World.cells?_some hc
      refine ⟨n, (D j, Pl j), ?_⟩
      rw [← ht']
      congr 1
      apply List.ext_getElem?
      intro i
      rw [List.getElem?_take]
      by_cases hi' : i < C
      · rw [if_pos hi', ← hat i hi', add_none, add_none]
        simp [World.cell?, ho, Nat.add_assoc]
      · rw [if_neg hi', List.getElem?_eq_none (by omega)]
theorem post_of_below {f : Func} {s : ChangeSpec} {apart fresh handsOn again : Bool} {W W' : World} {args : Array Value} {v : Value} {ds gs : List (DataW H)} {before pa pv : List MemPlace}
    (hW : DataW.Whole enc P f.params.toList s.vars apart W args.toList ds gs before)
    (hres : ∀ (b : Nat) (sp : Nat → Bool) (hd : Bool), DataW.TrodAll enc P W' b sp hd f.resultTypes.toList (v.resultList f.resultTypes.size) (s.fn H (ds ++ gs)).results [])
    (hargs : ∀ sp : Nat → Bool, (∀ p ∈ before, sp p.block = true) → DataW.TrodAll enc P W' 0 sp true f.params.toList args.toList (s.fn H (ds ++ gs)).args pa)
    (hvars : ∀ sp : Nat → Bool, (∀ p ∈ before, sp p.block = true) → DataW.TrodVars enc P W' sp s.vars (s.fn H (ds ++ gs)).vars pv)
    (hps : before = pa ++ pv) (hb : Below W.heap.size W W')
    (hok : ∀ (j : Nat) (t : TypeId) (r : Value), f.resultTypes[j]? = some t → (v.resultList f.resultTypes.size)[j]? = some r → Value.okWide P W' .any 0 t r) :
    s.post enc P f apart fresh handsOn again W args v W' := by
  have hlt : ∀ p ∈ before, p.block < W.heap.size := fun p hp => hW.lt p hp
  have hold : ∀ p ∈ before, (fun b => decide (b < W.heap.size)) p.block = true := fun p hp => by simpa using hlt p hp
  refine ⟨ds, gs, before, [], pa, pv, hW, hres _ _ _, hargs _ hold, hvars _ hold, World.keptBut_mono (fun p hp => ⟨hp, ?_⟩) (hb.frame (· ∈ before)), fun _ => ?_⟩
  · rw [hps, List.mem_append] at hp
    exact Or.inr hp
  · obtain ⟨_, _, _, _, _, hz, hn⟩ := hW
    refine ⟨hok, _, _, ([] ++ pa) ++ pv, ⟨[] ++ pa, pv, trodAll_append (hargs _ (fun _ _ => rfl)) (hres _ _ _), hvars _ (fun _ _ => rfl), rfl, ?_, ?_⟩, ?_⟩
    · intro b off hp
      have hin : MemPlace.cell b off ∈ before := by rw [hps]; simpa using hp
      rw [hb.frozen (hlt _ hin)]
      exact hz b off hin
    · intro ha
      have := hn ha
      rw [hps] at this
      simpa using this
    · intro p hp _
      rw [hps]
      simpa using hp
end
theorem below_of {n0 : Nat} {w0 w : World} (h : BelowF n0 (fun _ => False) w0 w) : Below n0 w0 w := ⟨h.os, h.tape, h.output, h.size, fun k hk => h.block k hk fun x => x⟩
theorem rel_empty (hg : glTab = []) (W : World) (n : Nat) : Rel W.heap.size (fun _ => False) W (fun _ => none) ⟨n, .nil, []⟩ W :=
  ⟨fun _ _ _ _ _ _ h => by (cases h), fun _ _ h => by (cases h), fun _ _ h => by (cases h), fun i b h => by (have h : (Tr.nil : Tr SBlk).get i = some b := h; rw [Tr.get_nil] at h; cases h), Nat.le_refl _, BelowF.refl _ _ _,
    fun _ _ h => by (cases h), fun _ _ _ _ _ _ h => by (cases h), fun g cs h => by rw [hg] at h; cases h⟩
/-- One block came in, at which nothing is written. -/
def oneD (ds : Array Value) (ty : TypeId) : SMem := ⟨1, Tr.node .nil (some ⟨.raw ds, ty, false⟩) .nil, []⟩
theorem one_get {ds : Array Value} {ty : TypeId} {i : Nat} {b : SBlk} (h : getB (oneD ds ty).bl i = some b) : i = 0 ∧ b = ⟨.raw ds, ty, false⟩ := by
  unfold getB oneD at h
  cases i with
  | zero => cases h; exact ⟨rfl, rfl⟩
  | succ i =>
    rw [Tr.get_succ, Tr.get_nil, ite_self] at h
    cases h
theorem rel_one (hg : glTab = []) {W : World} {b : Nat} {cs : Array Value} {ty : TypeId} {fz : Nat × Nat} (hb : W.heap[b]? = some (.cells cs ty fz)) :
    Rel W.heap.size (fun _ => False) W (fun i => if i = 0 then some ⟨b, cs.size⟩ else none) (oneD cs ty) W := by
  have key : ∀ {i : Nat} {g : Loc}, (if i = 0 then some (⟨b, cs.size⟩ : Loc) else none) = some g → i = 0 ∧ g = ⟨b, cs.size⟩ := by
    intro i g h
    split at h
    · rename_i e; cases h; exact ⟨e, rfl⟩
    · cases h
  have hlt : b < W.heap.size := (Array.getElem?_eq_some_iff.1 hb).1
  refine ⟨fun i j g h b c h1 h2 _ _ _ _ => by rw [(key h1).1, (key h2).1], fun i g h => by rw [(key h).2]; exact hlt, fun i g h => by rw [(key h).1]; exact Nat.zero_lt_one, fun i c hc => ?_, Nat.le_refl _, BelowF.refl _ _ _,
    fun _ _ h => by (cases h), fun _ _ _ _ _ _ _ _ _ h => by (cases h), fun g cs h => by rw [hg] at h; cases h⟩
  obtain ⟨rfl, rfl⟩ := one_get hc
  exact ⟨⟨b, cs.size⟩, cs, fz, rfl, hb, rfl, rfl, fun h => by cases h⟩
end
end Go.Proofs.Ytnjmockpdmchcaa
