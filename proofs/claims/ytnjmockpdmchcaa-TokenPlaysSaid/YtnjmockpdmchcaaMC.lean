/- Of token: the contract of Return. No condition. -/
import Derived.Test.YtnjmockpdmchcaaMB
import Derived.Test.YtnjmockpdmchcaaMA
set_option linter.unusedVariables false
set_option linter.unusedSimpArgs false
namespace Go.Proofs.Ytnjmockpdmchcaa
set_option maxRecDepth 100000
set_option linter.unusedSimpArgs false
set_option linter.unusedVariables false
theorem ints_u32s (l : List Int) : ints (u32s l) = l := by
  unfold ints u32s
  rw [List.map_map]
  exact (List.map_congr_left fun x _ => rfl).trans (List.map_id _)
theorem conU_ok (n : Nat) : ∀ g l m t, conU n g l m = some t → Con E0 g l m t := by
  intro g l m t h
  unfold conU at h
  split at h
  · cases h
    refine Con.asked fun hq => ?_
    intro A hs
    exact out_none m A ⟨fun p hp => hq p hp, hs⟩
  · rename_i ts i k
    split at h
    · rename_i cs w hb
      cases h
      refine Con.asked fun hq => ?_
      have e1 : cs = u32s (ints cs) := hq _ (by simp)
      have e2 : k.den = (ints cs).length := hq _ (by simp)
      have hb' : getB m.bl i = some ⟨.pop (u32s (ints cs)), 30, w⟩ := by rw [← e1]; exact hb
      intro A hs
      exact out_con e2 hb' A ⟨fun p hp => by
        simp only [List.mem_cons, List.not_mem_nil, or_false] at hp
        rcases hp with rfl | rfl | rfl
        · exact hq _ (by simp)
        · exact hq _ (by simp)
        · exact hq _ (by simp), hs⟩
    · cases h
  · rename_i ts r a; cases h
    refine Con.asked fun hq => Con.args (l' := [tkS ts, u32 r.den, u32 a.den]) (fun R vs ha => by
      match vs, ha with
      | [v, w, z], ha => exact ⟨ha.1, ha.2.1, ha.2.2.1, trivial⟩) ?_
    intro A hs
    exact reads_con r.den a.den m A ⟨fun p hp => hq p hp, hs⟩
  · rename_i ts r a; cases h
    refine Con.asked fun hq => Con.args (l' := [tkS ts, u32 r.den, u32 a.den]) (fun R vs ha => by
      match vs, ha with
      | [v, w, z], ha => exact ⟨ha.1, ha.2.1, ha.2.2.1, trivial⟩) ?_
    intro A hs
    exact writes_con r.den a.den m A ⟨fun p hp => hq p hp, hs⟩
  · rename_i ts a; cases h
    refine Con.asked fun hq => Con.args (l' := [tkS ts, u32 a.den]) (fun R vs ha => by
      match vs, ha with
      | [v, w], ha => exact ⟨ha.1, ha.2.1, trivial⟩) ?_
    intro A hs
    exact get_con a.den m A ⟨fun p hp => hq p hp, hs⟩
  · rename_i ts r b t' mu a; cases h
    refine Con.asked fun hq => Con.args (l' := [tkS ts, tokS r.den b.den t'.den mu.den a.den]) (fun R vs ha => by
      match vs, ha with
      | [v, w], ⟨h0, ⟨cs, e, h1⟩, _⟩ =>
        refine ⟨h0, ⟨cs, e, ?_⟩, trivial⟩
        have h1 : All2 (SC.ok R) [.f (.int .u32 r), .f (.int .u8 b), .f (.int .u8 t'), .f (.bool mu), .f (.int .u32 a)] cs.toList := h1
        show All2 (SC.ok R) [.f (.int .u32 (.o r.den)), .f (.int .u8 (.o b.den)), .f (.int .u8 (.o t'.den)), .f (.bool (.o mu.den)), .f (.int .u32 (.o a.den))] cs.toList
        revert h1
        generalize cs.toList = l
        intro h1
        match l, h1 with
        | [a0, a1, a2, a3, a4], h1 => exact h1) ?_
    intro A hs
    exact may_con r.den b.den t'.den mu.den a.den m A ⟨fun p hp => hq p hp, hs⟩
  · exact conM_ok0 n (conM_26 n) _ _ _ _ h
theorem ER_ok (n : Nat) : EnvOk (ER n) := EnvOk.with E0_ok _ _ (conU_ok n)
section
variable {ts : Array Value}
def goneL (ts : Array Value) (n : Nat) (h : Int) : List Int := (issued (bkT ts)).filter fun x => getI x (meetL ts n h []) == 1
def gonePre (ts : Array Value) (n : Nat) (h : Int) (i : Nat) : List Int := ((issued (bkT ts)).take i).filter fun x => getI x (meetL ts n h []) == 1
theorem gonePre_succ {n : Nat} {h : Int} {i : Nat} (hi : i < (issued (bkT ts)).length) : gonePre ts n h (i + 1) = if (getI ((issued (bkT ts)).getD i 0) (meetL ts n h []) == 1) = true then gonePre ts n h i ++ [(issued (bkT ts)).getD i 0] else gonePre ts n h i := by
  unfold gonePre
  rw [List.take_add_one, List.getElem?_eq_getElem hi, List.getD_eq_getElem?_getD, List.getElem?_eq_getElem hi, List.filter_append]
  simp only [Option.toList_some, Option.getD_some]
  rw [List.filter_cons, List.filter_nil]
  split <;> simp
theorem gonePre_le {n : Nat} {h : Int} (i : Nat) : (gonePre ts n h i).length ≤ i := by
  unfold gonePre
  exact Nat.le_trans (List.length_filter_le _ _) (by rw [List.length_take]; omega)
theorem gonePre_all {n : Nat} {h : Int} : gonePre ts n h (issued (bkT ts)).length = goneL ts n h := by
  unfold gonePre goneL
  rw [List.take_length]
theorem u32s_one (x : Int) : #[Value.int .u32 x] = u32s [x] := rfl
theorem iss_at {i : Nat} (hi : i < (issued (bkT ts)).length) : (u32s (issued (bkT ts)))[i]? = some (.int .u32 ((issued (bkT ts)).getD i 0)) := u32s_at hi
theorem rZS_good {n : Nat} {A : SV → SMem → Prop} {k : Nat} {rs : Array Value} {gs : List (Int × Int)} {QN : Int → Array Value → Prop} {QS : Int → Array Value → Nat → Array Value → Prop} {QE : Array Value → Nat → Array Value → Prop} {QX : Prop} {fs : List SFr} {m : SMem}
    (hn : ∀ i z, QN i z → Good Try.prog A 0 (rN_F ts k rs gs i z) (rN_M ts k rs gs i z)) (hs : ∀ i z q cs, QS i z q cs → Good Try.prog A 0 (rS_F ts k rs gs i z q cs) (rS_M ts k rs gs i z q cs)) (he : ∀ z q cs, QE z q cs → Good Try.prog A 0 (eS_F ts z q cs) (eS_M ts z q cs)) (hx : ¬ QX)
    (hb : rG ts k rs gs QN QS QE QX fs m) : Good Try.prog A 0 fs m := by
  unfold rG at hb
  split at hb
  · split at hb
    · split at hb
      · exact eS_good he hb
      · exact absurd hb hx
    · exact hb.elim
  · unfold rZS at hb
    split at hb
    · split at hb
      · exact rS_good hs hb
      · exact rN_good hn hb
    · exact hb.elim
theorem gone_hs (h : TsOk ts) {n : Nat} {x : Int} : HsOk (goneL ts n x) := by
  intro y hy
  have hm := (List.mem_filter.1 hy).1
  have hg := (issued_mem h.bk).1 hm
  obtain ⟨s1, s2, s3, s4, s5, s6, s7, s8⟩ := good_slot h hg
  exact ⟨s7, s2⟩
theorem gone_len {n : Nat} {x : Int} : (goneL ts n x).length ≤ 32 := Nat.le_trans (List.length_filter_le _ _) (issL_le 32)
theorem eS_ok {n : Nat} (h : TsOk ts) {x : Int} {zz : Array Value} (hz : zz.size = 144) : Good Try.prog (rOk (outT ts (goneL ts n x) (goneL ts n x).length) (goneL ts n x).length (u32s (goneL ts n x))) 0 (eS_F ts zz (goneL ts n x).length (u32s (goneL ts n x))) (eS_M ts zz (goneL ts n x).length (u32s (goneL ts n x))) := by
  refine past_vc (ER_ok n) 1000 (rt4 n ts zz (goneL ts n x).length (u32s (goneL ts n x)) _ _ _) ?_ (fun _ _ h => h) (fun fs m hb => hb.elim)
  have ho := (outT_ok h (gone_hs (n := n) (x := x) h) (goneL ts n x).length (Nat.le_refl _)).sz
  have hl : ∀ y, List.Mem y (goneL ts n x) → (0 ≤ y ∧ y < 4294967296) ∧ slotI y < 16 := fun y hy => gone_hs h y hy
  have hlen := gone_len (ts := ts) (n := n) (x := x)
  simp only [ints_u32s, h.sz, ho, hz, and_true, true_and]
  exact ⟨h, hl, hlen⟩
theorem rS_ok {n : Nat} (h : TsOk ts) {x : Int} {zz : Array Value} (hz : zz.size = 144) : ∀ (k i : Nat), i + k + 1 = (issued (bkT ts)).length → Good Try.prog (rOk (outT ts (goneL ts n x) (goneL ts n x).length) (goneL ts n x).length (u32s (goneL ts n x))) 0 (rS_F ts (issued (bkT ts)).length (u32s (issued (bkT ts))) (meetL ts n x []) (i : Int) zz (gonePre ts n x i).length (u32s (gonePre ts n x i))) (rS_M ts (issued (bkT ts)).length (u32s (issued (bkT ts))) (meetL ts n x []) (i : Int) zz (gonePre ts n x i).length (u32s (gonePre ts n x i))) := by
  have hle : (issued (bkT ts)).length ≤ 32 := issL_le 32
  intro k
  induction k with
  | zero =>
    intro i hi
    refine past_vc (ER_ok n) 1000 (rt3 n ts _ _ _ (i : Int) zz _ _ _ _ _ (fun _ _ => False) (fun _ _ _ _ => False) (fun z q cs => z = zz ∧ q = (gonePre ts n x (i + 1)).length ∧ cs = u32s (gonePre ts n x (i + 1))) False) ?_ (fun _ _ h => h)
      (fun fs m hb => rZS_good (n := n) (fun _ _ h => h.elim) (fun _ _ _ _ h => h.elim) (fun z q cs ⟨e1, e2, e3⟩ => by
        rw [e1, e2, e3, show i + 1 = (issued (bkT ts)).length by omega, gonePre_all]; exact eS_ok h hz) (fun h => h) hb)
    have hi' : i < (issued (bkT ts)).length := by omega
    have hu := iss_at hi'
    have ei : ari .add .i64 (i : Int) 1 = ((i + 1 : Nat) : Int) := by rw [ari_add, i64_in' (by omega) (by omega)]; omega
    have d : decide (((i + 1 : Nat) : Int) < ((issued (bkT ts)).length : Int)) = false := decide_eq_false (by omega)
    have hp := gonePre_le (ts := ts) (n := n) (h := x) i
    have hs := gonePre_succ (n := n) (h := x) hi'
    cases c : getI ((issued (bkT ts)).getD i 0) (meetL ts n x []) == 1
    all_goals
      rw [c] at hs
      simp only [if_true, if_false, Bool.false_eq_true] at hs
      simp only [Nat.zero_add, Nat.mul_one, Int.toNat_natCast, intAt_of hu, c, ei, d, hs, u32s_size, u32s_app, List.length_append, List.length_cons, List.length_nil, true_implies, Bool.true_eq_false, Bool.false_eq_true, false_implies, and_true, true_and, rS_d0_ok, rN_d0_ok, eS_d0_ok]
      repeat' first | exact isI_of hu | exact rfl | exact trivial | omega | apply And.intro
  | succ k ih =>
    intro i hi
    refine past_vc (ER_ok n) 1000 (rt3 n ts _ _ _ (i : Int) zz _ _ _ _ _ (fun _ _ => False) (fun i' z q cs => i' = ((i + 1 : Nat) : Int) ∧ z = zz ∧ q = (gonePre ts n x (i + 1)).length ∧ cs = u32s (gonePre ts n x (i + 1))) (fun z q cs => False) False) ?_ (fun _ _ h => h)
      (fun fs m hb => rZS_good (n := n) (fun _ _ h => h.elim) (fun i' z q cs ⟨e0, e1, e2, e3⟩ => by rw [e0, e1, e2, e3]; exact ih (i + 1) (by omega)) (fun z q cs h => h.elim) (fun h => h) hb)
    have hi' : i < (issued (bkT ts)).length := by omega
    have hu := iss_at hi'
    have ei : ari .add .i64 (i : Int) 1 = ((i + 1 : Nat) : Int) := by rw [ari_add, i64_in' (by omega) (by omega)]; omega
    have d : decide (((i + 1 : Nat) : Int) < ((issued (bkT ts)).length : Int)) = true := decide_eq_true (by omega)
    have hp := gonePre_le (ts := ts) (n := n) (h := x) i
    have hs := gonePre_succ (n := n) (h := x) hi'
    cases c : getI ((issued (bkT ts)).getD i 0) (meetL ts n x []) == 1
    all_goals
      rw [c] at hs
      simp only [if_true, if_false, Bool.false_eq_true] at hs
      simp only [Nat.zero_add, Nat.mul_one, Int.toNat_natCast, intAt_of hu, c, ei, d, hs, u32s_size, u32s_app, List.length_append, List.length_cons, List.length_nil, true_implies, Bool.true_eq_false, Bool.false_eq_true, false_implies, and_true, true_and, rS_d0_ok, rN_d0_ok, eS_d0_ok]
      repeat' first | exact isI_of hu | exact rfl | exact trivial | omega | apply And.intro
theorem rN_ok {n : Nat} (h : TsOk ts) {x : Int} (hne : goneL ts n x ≠ []) {zz : Array Value} (hz : zz.size = 144) : ∀ (k i : Nat), i + k + 1 = (issued (bkT ts)).length → gonePre ts n x i = [] → Good Try.prog (rOk (outT ts (goneL ts n x) (goneL ts n x).length) (goneL ts n x).length (u32s (goneL ts n x))) 0 (rN_F ts (issued (bkT ts)).length (u32s (issued (bkT ts))) (meetL ts n x []) (i : Int) zz) (rN_M ts (issued (bkT ts)).length (u32s (issued (bkT ts))) (meetL ts n x []) (i : Int) zz) := by
  have hle : (issued (bkT ts)).length ≤ 32 := issL_le 32
  intro k
  induction k with
  | zero =>
    intro i hi h0
    refine past_vc (ER_ok n) 1000 (rt2 n ts _ _ _ (i : Int) zz _ _ _ (fun _ _ => False) (fun _ _ _ _ => False) (fun z q cs => z = zz ∧ q = (gonePre ts n x (i + 1)).length ∧ cs = u32s (gonePre ts n x (i + 1))) False) ?_ (fun _ _ h => h)
      (fun fs m hb => rZS_good (n := n) (fun _ _ h => h.elim) (fun _ _ _ _ h => h.elim) (fun z q cs ⟨e1, e2, e3⟩ => by
        rw [e1, e2, e3, show i + 1 = (issued (bkT ts)).length by omega, gonePre_all]; exact eS_ok h hz) (fun h => h) hb)
    have hi' : i < (issued (bkT ts)).length := by omega
    have hu := iss_at hi'
    have ei : ari .add .i64 (i : Int) 1 = ((i + 1 : Nat) : Int) := by rw [ari_add, i64_in' (by omega) (by omega)]; omega
    have d : decide (((i + 1 : Nat) : Int) < ((issued (bkT ts)).length : Int)) = false := decide_eq_false (by omega)
    have hs := gonePre_succ (n := n) (h := x) hi'
    rw [h0] at hs
    cases c : getI ((issued (bkT ts)).getD i 0) (meetL ts n x []) == 1
    · rw [c] at hs
      simp only [if_true, if_false, Bool.false_eq_true] at hs
      rw [show i + 1 = (issued (bkT ts)).length by omega, gonePre_all] at hs
      exact absurd hs hne
    · rw [c] at hs
      simp only [if_true] at hs
      simp only [Nat.zero_add, Nat.mul_one, Int.toNat_natCast, intAt_of hu, c, ei, d, hs, u32s_one, List.nil_append, List.length_cons, List.length_nil, true_implies, Bool.true_eq_false, Bool.false_eq_true, false_implies, and_true, true_and, rS_d0_ok, rN_d0_ok, eS_d0_ok]
      repeat' first | exact isI_of hu | exact rfl | exact trivial | omega | apply And.intro
  | succ k ih =>
    intro i hi h0
    refine past_vc (ER_ok n) 1000 (rt2 n ts _ _ _ (i : Int) zz _ _ _ (fun i' z => i' = ((i + 1 : Nat) : Int) ∧ z = zz ∧ gonePre ts n x (i + 1) = []) (fun i' z q cs => i' = ((i + 1 : Nat) : Int) ∧ z = zz ∧ q = (gonePre ts n x (i + 1)).length ∧ cs = u32s (gonePre ts n x (i + 1))) (fun z q cs => False) False) ?_ (fun _ _ h => h)
      (fun fs m hb => rZS_good (n := n) (fun i' z ⟨e0, e1, e2⟩ => by rw [e0, e1]; exact ih (i + 1) (by omega) e2) (fun i' z q cs ⟨e0, e1, e2, e3⟩ => by rw [e0, e1, e2, e3]; exact rS_ok h hz k (i + 1) (by omega)) (fun z q cs h => h.elim) (fun h => h) hb)
    have hi' : i < (issued (bkT ts)).length := by omega
    have hu := iss_at hi'
    have ei : ari .add .i64 (i : Int) 1 = ((i + 1 : Nat) : Int) := by rw [ari_add, i64_in' (by omega) (by omega)]; omega
    have d : decide (((i + 1 : Nat) : Int) < ((issued (bkT ts)).length : Int)) = true := decide_eq_true (by omega)
    have hs := gonePre_succ (n := n) (h := x) hi'
    rw [h0] at hs
    cases c : getI ((issued (bkT ts)).getD i 0) (meetL ts n x []) == 1
    all_goals
      rw [c] at hs
      simp only [if_true, if_false, Bool.false_eq_true] at hs
      simp only [Nat.zero_add, Nat.mul_one, Int.toNat_natCast, intAt_of hu, c, ei, d, hs, u32s_one, List.nil_append, List.length_cons, List.length_nil, true_implies, Bool.true_eq_false, Bool.false_eq_true, false_implies, and_true, true_and, rS_d0_ok, rN_d0_ok, eS_d0_ok]
      repeat' first | exact isI_of hu | exact rfl | exact trivial | omega | apply And.intro
inductive Below1 (ts : Array Value) : Int → Int → Prop
  | self (h : Int) : Below1 ts h h
  | kid {h k x : Int} : k ∈ kidsT ts h → Below1 ts k x → Below1 ts h x
theorem meet_fold {n : Nat} (ih : ∀ (k : Int) (gs : List (Int × Int)) (x : Int), Deep ts n k → (lookI x (meetL ts n k gs) = some 1 ↔ lookI x gs = some 1 ∨ Below1 ts k x)) : ∀ (l : List Int), (∀ k ∈ l, Deep ts n k) → ∀ (g : List (Int × Int)) (x : Int), lookI x (l.foldl (fun g k => meetL ts n k g) g) = some 1 ↔ lookI x g = some 1 ∨ ∃ k ∈ l, Below1 ts k x
  | [], _, g, x => ⟨.inl, fun h => h.resolve_right fun ⟨_, h, _⟩ => by cases h⟩
  | k :: l, hd, g, x => by
    rw [List.foldl_cons, meet_fold ih l (fun k hk => hd k (List.mem_cons_of_mem _ hk)) (meetL ts n k g) x, ih k g x (hd k (List.mem_cons_self ..))]
    constructor
    · rintro ((h | h) | ⟨k', h1, h2⟩)
      · exact .inl h
      · exact .inr ⟨k, List.mem_cons_self .., h⟩
      · exact .inr ⟨k', List.mem_cons_of_mem _ h1, h2⟩
    · rintro (h | ⟨k', h1, h2⟩)
      · exact .inl (.inl h)
      · rcases List.mem_cons.1 h1 with rfl | h1
        · exact .inl (.inr h2)
        · exact .inr ⟨k', h1, h2⟩
theorem meet_has : ∀ (n : Nat) (h : Int) (gs : List (Int × Int)) (x : Int), Deep ts n h → (lookI x (meetL ts n h gs) = some 1 ↔ lookI x gs = some 1 ∨ Below1 ts h x)
  | 0, _, _, _, hd => hd.elim
  | n + 1, h, gs, x, hd => by
    unfold meetL
    rw [meet_fold (fun k gs x hk => meet_has n k gs x hk) (kidsT ts h) hd, look_ins]
    constructor
    · rintro (e | ⟨k, h1, h2⟩)
      · split at e
        · rename_i c; rw [c]; exact .inr (.self h)
        · exact .inl e
      · exact .inr (.kid h1 h2)
    · rintro (e | e)
      · by_cases c : x = h
        · exact .inl (if_pos c)
        · exact .inl ((if_neg c).trans e)
      · cases e with
        | self => exact .inl (if_pos rfl)
        | kid h1 h2 => exact .inr ⟨_, h1, h2⟩
theorem gone_mem (h : TsOk ts) {n : Nat} {x y : Int} (hd : Deep ts n x) : y ∈ goneL ts n x ↔ goodB (bkT ts) y = true ∧ Below1 ts x y := by
  have hm := meet_has n x [] y hd
  unfold goneL
  rw [List.mem_filter, issued_mem h.bk]
  have e : (getI y (meetL ts n x []) == 1) = true ↔ lookI y (meetL ts n x []) = some 1 := by
    unfold getI
    cases lookI y (meetL ts n x []) with
    | none => exact ⟨fun h => (by cases h), fun h => (by cases h)⟩
    | some v => simp
  rw [e, hm]
  exact ⟨fun ⟨a, b⟩ => ⟨a, b.resolve_left fun e => by cases e⟩, fun ⟨a, b⟩ => ⟨a, .inr b⟩⟩
theorem return_good {n : Nat} (h : TsOk ts) {x : Int} (hx : inH x) (hg : goodB (bkT ts) x = true) (hd : Deep ts n x) :
    Good Try.prog (rOk (outT ts (goneL ts n x) (goneL ts n x).length) (goneL ts n x).length (u32s (goneL ts n x))) 0 [callFr 7 Try.f7.ntmps [tkS ts, u32 x] (Try.f7.body.getD .skip)] e0M := by
  have hxm : x ∈ issued (bkT ts) := (issued_mem h.bk).2 hg
  have hne : goneL ts n x ≠ [] := by
    intro e
    have : x ∈ goneL ts n x := (gone_mem h hd).2 ⟨hg, .self x⟩
    rw [e] at this
    cases this
  have hlen : 0 < (issued (bkT ts)).length := List.length_pos_of_mem hxm
  have hbk : BkOk (bkT ts) := h.bk
  have rA_ok : ∀ zz : Array Value, zz.size = 144 → Good Try.prog (rOk (outT ts (goneL ts n x) (goneL ts n x).length) (goneL ts n x).length (u32s (goneL ts n x))) 0 (rA_F ts x [] zz) (rA_M ts x [] zz) := by
    intro zz hz
    refine past_vc (ER_ok n) 1000 (rt1 n ts x [] (meetL ts n x []) zz _ _ _ (issued (bkT ts)).length (u32s (issued (bkT ts))) (fun i z => i = ((0 : Nat) : Int) ∧ z = zz) (fun _ _ _ _ => False) (fun _ _ _ => False) False) ?_ (fun _ _ h => h)
      (fun fs m hb => rZS_good (n := n) (fun i z ⟨e0, e1⟩ => by rw [e0, e1]; exact rN_ok h hne hz ((issued (bkT ts)).length - 1) 0 (by omega) rfl) (fun _ _ _ _ h => h.elim) (fun _ _ _ h => h.elim) (fun h => h) hb)
    have c : decide ((issued (bkT ts)).length = 0) = false := decide_eq_false (by omega)
    have d : decide ((0 : Int) < ((issued (bkT ts)).length : Int)) = true := decide_eq_true (by omega)
    simp only [Nat.zero_add, bk_fold, c, d, h.sz, true_implies, Bool.true_eq_false, Bool.false_eq_true, false_implies, and_true, true_and, rN_d0_ok]
    repeat' first | exact h | exact hx.1 | exact hx.2 | exact hd | exact hbk | exact rfl | exact trivial | omega | apply And.intro
  have start : ∀ A : SV → SMem → Prop, (∀ zz : Array Value, zz.size = 144 → Good Try.prog A 0 (rA_F ts x [] zz) (rA_M ts x [] zz)) → Good Try.prog A 0 [callFr 7 Try.f7.ntmps [tkS ts, u32 x] (Try.f7.body.getD .skip)] e0M := by
    intro A hA
    refine run_vc (ER_ok n) 1000 (rt0 n ts x False ts (fun g z => g = [] ∧ z.size = 144 ∧ goodB (bkT ts) x = true)) ?_ (fun s m h => ?_) (fun fs m hb => rA_good (fun g z ⟨e0, e1, _⟩ => by rw [e0]; exact hA z e1) hb)
    · simp only [Nat.zero_add, bk_fold, hg, h.sz, List.map_nil, Bool.not_true, Bool.not_false, true_implies, Bool.true_eq_false, Bool.false_eq_true, false_implies, and_true, true_and, rA_d0_ok]
      repeat' first | exact hbk | exact hx.1 | exact hx.2 | exact rfl | exact trivial | omega | apply And.intro
    · unfold rBad at h
      split at h
      · exact h.1.elim
      · exact h.elim
  exact start _ rA_ok
theorem return_bad {n : Nat} (h : TsOk ts) {x : Int} (hx : inH x) (hg : goodB (bkT ts) x = false) :
    Good Try.prog (rBad True ts) 0 [callFr 7 Try.f7.ntmps [tkS ts, u32 x] (Try.f7.body.getD .skip)] e0M := by
  have hbk : BkOk (bkT ts) := h.bk
  refine run_vc (ER_ok n) 1000 (rt0 n ts x True ts (fun g z => False)) ?_ (fun s m h => h) (fun fs m hb => rA_good (fun g z hf => hf.elim) hb)
  simp only [Nat.zero_add, bk_fold, hg, h.sz, List.map_nil, Bool.not_true, Bool.not_false, true_implies, Bool.true_eq_false, Bool.false_eq_true, false_implies, and_true, true_and, rA_d0_ok]
  repeat' first | exact hbk | exact hx.1 | exact hx.2 | exact rfl | exact trivial | omega | apply And.intro
theorem fn7 : E0.fn 7 = some Try.f7 := by kernel_rfl
theorem body7 : Try.f7.body = some (Try.f7.body.getD .skip) := by kernel_rfl
noncomputable def depN (ts : Array Value) (x : Int) : Nat := by
  classical
  exact if h : ∃ n, Deep ts n x then h.choose else 0
theorem depN_ok {x : Int} (h : ∃ n, Deep ts n x) : Deep ts (depN ts x) x := by
  unfold depN
  rw [dif_pos h]
  exact h.choose_spec
noncomputable def retL (ts : Array Value) (x : Int) : List Int := goneL ts (depN ts x) x
noncomputable def retT (ts : Array Value) (x : Int) : Array Value := outT ts (retL ts x) (retL ts x).length
noncomputable def retTree (ts : Array Value) (x : Int) (m : SMem) : Tree :=
  .br (goodB (bkT ts) x) (.need [∃ n, Deep ts n x] (.ret (.tup [.agg (.op (retT ts x)), .c (.f (.slice m.next (.l 0) (.o (retL ts x).length) (.full 1))), .c (.f (.int .i64 (.l 0)))]) (m.new (.pop (u32s (retL ts x))) 30)))
    (.ret (.tup [.agg (.op ts), .c (.f (.lit (.slice none 0 0))), .c (.f (.int .i64 (.l 4)))]) m)
theorem return_con (x : Int) (m : SMem) : Con E0 7 [tkS ts, u32 x] m (.need [TsOk ts, inH x] (retTree ts x m)) := by
  refine Con.asked fun hq => ?_
  have h : TsOk ts := hq _ (by simp)
  have hx : inH x := hq _ (by simp)
  refine Con.two (fun hg => Con.asked fun hq' => ?_) (fun hg => ?_)
  · have hd := depN_ok (hq' _ (List.mem_cons_self ..))
    intro A hA
    refine ⟨Try.f7, fn7, by rw [body7]; rfl, fun n0 F w0 w R args hl hR => ?_⟩
    refine (answers_of_good (m := e0M) (E0_ok.fns _ _ fn7).1 body7 (return_good h hx hg hd) (ok_anys (by kernel_rfl) hl) hR.none).mono ?_
    rintro v w' ⟨s, m', R', hs, hX, hR', hv⟩
    unfold rOk at hs
    split at hs
    · rename_i o' id nn e
      split at hs
      · rename_i ds ty hb0
        obtain ⟨rfl, rfl, rfl, rfl, he⟩ := hs
        obtain ⟨gl, cs, fz, e1, e2, e3, e4, e5⟩ := hR'.blk id _ hb0
        obtain ⟨e6, ez⟩ := e5 rfl
        have e7 : w.heap.size ≤ gl.b := e6.resolve_right fun x => x
        obtain ⟨R2, k1, k2, k3⟩ := hR.grow hR'.fr.to e7 (hR'.lt id gl e1) e2 e3 (free_ok (R' := R) (a := .pop _) rfl e4) ez
        obtain ⟨vs, rfl, hv⟩ := hv
        match hvs : vs.toList, hv with
        | [a, b, c], hv =>
          obtain ⟨ha, ⟨g, cp, f1, rfl, f2, f3⟩, hy, _⟩ := hv
          rw [e1] at f1
          cases f1
          refine ⟨_, _, R2, hA, k1, k3, vs, rfl, ?_⟩
          rw [hvs]
          refine ⟨ha, ⟨gl, cp, k2, rfl, f2, f3⟩, ?_, trivial⟩
          have hy : c = .int .i64 e.den := hy
          rw [hy, he]; rfl
      · exact hs.elim
    · exact hs.elim
  · intro A hA
    refine ⟨Try.f7, fn7, by rw [body7]; rfl, fun n0 F w0 w R args hl hR => ?_⟩
    refine (answers_of_good (m := e0M) (E0_ok.fns _ _ fn7).1 body7 (return_bad (n := 0) h hx hg) (ok_anys (by kernel_rfl) hl) hR.none).mono ?_
    rintro v w' ⟨s, m', R', hs, hX, hR', hv⟩
    unfold rBad at hs
    split at hs
    · rename_i o' e
      obtain ⟨_, rfl, he⟩ := hs
      refine ⟨_, _, R, hA, ⟨fun _ _ h => h, fun _ _ h => .inl h, hX.2.2.1, Nat.le_refl _⟩, hR.step hR'.fr.to, ?_⟩
      obtain ⟨vs, rfl, hv⟩ := hv
      match hvs : vs.toList, hv with
      | [a, b, c], hv =>
        obtain ⟨ha, hb, hy, _⟩ := hv
        refine ⟨vs, rfl, ?_⟩
        rw [hvs]
        refine ⟨ha, hb, ?_, trivial⟩
        have hy : c = .int .i64 e.den := hy
        rw [hy, he]; rfl
    · exact hs.elim
end
end Go.Proofs.Ytnjmockpdmchcaa
/- Of token: Lend, Clear: what they answer. No condition. -/
namespace Go.Proofs.Ytnjmockpdmchcaa
noncomputable section
def EL0 : Env := ⟨Try.prog, fnOf, conU 0, fun _ _ _ => false⟩
end
theorem EL0_ok : EnvOk EL0 := EnvOk.with E0_ok _ _ (conU_ok 0)
end Go.Proofs.Ytnjmockpdmchcaa
/- Of token: Lend, Clear, as propositions. -/
namespace Go.Proofs.Ytnjmockpdmchcaa
set_option maxRecDepth 100000
theorem ln0 (ts : Array Value) (r b t : Int) (mu : Bool) (a : Int) (o : Array Value) (h e : Int) : (run EL0 1000 0 [callFr 12 Try.f12.ntmps [tkS ts, tokS r b t mu a] (Try.f12.body.getD .skip)] e0M).vc (retOk 0 [] (.tup [.agg (.op o), .c (.f (.int .u32 (.o h))), .c (.f (.int .i64 (.o e)))]) e0M) (fun _ _ => False) =
    ((Array.size ts = (144 : Nat) ∧ True) ∧ (TsOk ts ∧ ((0 : Int) ≤ a ∧ a < (4294967296 : Int)) ∧ True) ∧ ((mayE ts r b t mu a != (0 : Int)) = true → (Array.size ts = (144 : Nat) ∧ True) ∧ (Array.size ts = (144 : Nat) ∧ Array.size ts = (144 : Nat) ∧ True) ∧ (Array.size ts = (144 : Nat) ∧ True) ∧ o = ts ∧ h = (0 : Int) ∧ e = mayE ts r b t mu a ∧ True) ∧ ((mayE ts r b t mu a != (0 : Int)) = false → ((64 : Nat) ≤ Array.size ts ∧ True) ∧ (BkOk (Array.extract ts (0 : Nat) (64 : Nat)) ∧ True) ∧ (Array.size (issueB (Array.extract ts (0 : Nat) (64 : Nat))) = (64 : Nat) ∧ Array.size (issueB (Array.extract ts (0 : Nat) (64 : Nat))) = (64 : Nat) ∧ True) ∧ (((0 : Int) ≤ issueI (Array.extract ts (0 : Nat) (64 : Nat)) ∧ issueI (Array.extract ts (0 : Nat) (64 : Nat)) < (4294967296 : Int)) ∧ True) ∧ (((!issueOk (Array.extract ts (0 : Nat) (64 : Nat))) == false) = true → (decide (slotI (issueI (Array.extract ts (0 : Nat) (64 : Nat))) ≥ (16 : Int)) = true → (Array.size ts = (144 : Nat) ∧ True) ∧ (Array.size ts = (144 : Nat) ∧ Array.size ts = (144 : Nat) ∧ True) ∧ (Array.size ts = (144 : Nat) ∧ True) ∧ o = ts ∧ h = (0 : Int) ∧ e = (7 : Int) ∧ True) ∧ (decide (slotI (issueI (Array.extract ts (0 : Nat) (64 : Nat))) ≥ (16 : Int)) = false → (Array.size (issueB (Array.extract ts (0 : Nat) (64 : Nat))) = (64 : Nat) ∧ True) ∧ (Array.size (issueB (Array.extract ts (0 : Nat) (64 : Nat))) = (64 : Nat) ∧ (0 : Nat) + Array.size (issueB (Array.extract ts (0 : Nat) (64 : Nat))) ≤ Array.size ts ∧ True) ∧ (((0 : Int) ≤ slotI (issueI (Array.extract ts (0 : Nat) (64 : Nat))) ∧ slotI (issueI (Array.extract ts (0 : Nat) (64 : Nat))) < (16 : Int)) ∧ True) ∧ ((64 : Nat) + Int.toNat (slotI (issueI (Array.extract ts (0 : Nat) (64 : Nat)))) * 5 + List.length [Value.int IntKind.u32 r, Value.int IntKind.u8 b, Value.int IntKind.u8 t, Value.bool mu, Value.int IntKind.u32 a] ≤ Array.size (putAt ts (0 : Nat) (Array.toList (issueB (Array.extract ts (0 : Nat) (64 : Nat))))) ∧ True) ∧ (Array.size (putAt (putAt ts (0 : Nat) (Array.toList (issueB (Array.extract ts (0 : Nat) (64 : Nat))))) ((64 : Nat) + Int.toNat (slotI (issueI (Array.extract ts (0 : Nat) (64 : Nat)))) * 5) [Value.int IntKind.u32 r, Value.int IntKind.u8 b, Value.int IntKind.u8 t, Value.bool mu, Value.int IntKind.u32 a]) = (144 : Nat) ∧ True) ∧ (Array.size (putAt (putAt ts (0 : Nat) (Array.toList (issueB (Array.extract ts (0 : Nat) (64 : Nat))))) ((64 : Nat) + Int.toNat (slotI (issueI (Array.extract ts (0 : Nat) (64 : Nat)))) * 5) [Value.int IntKind.u32 r, Value.int IntKind.u8 b, Value.int IntKind.u8 t, Value.bool mu, Value.int IntKind.u32 a]) = (144 : Nat) ∧ Array.size (putAt (putAt ts (0 : Nat) (Array.toList (issueB (Array.extract ts (0 : Nat) (64 : Nat))))) ((64 : Nat) + Int.toNat (slotI (issueI (Array.extract ts (0 : Nat) (64 : Nat)))) * 5) [Value.int IntKind.u32 r, Value.int IntKind.u8 b, Value.int IntKind.u8 t, Value.bool mu, Value.int IntKind.u32 a]) = (144 : Nat) ∧ True) ∧ (Array.size (putAt (putAt ts (0 : Nat) (Array.toList (issueB (Array.extract ts (0 : Nat) (64 : Nat))))) ((64 : Nat) + Int.toNat (slotI (issueI (Array.extract ts (0 : Nat) (64 : Nat)))) * 5) [Value.int IntKind.u32 r, Value.int IntKind.u8 b, Value.int IntKind.u8 t, Value.bool mu, Value.int IntKind.u32 a]) = (144 : Nat) ∧ True) ∧ o = putAt (putAt ts (0 : Nat) (Array.toList (issueB (Array.extract ts (0 : Nat) (64 : Nat))))) ((64 : Nat) + Int.toNat (slotI (issueI (Array.extract ts (0 : Nat) (64 : Nat)))) * 5) [Value.int IntKind.u32 r, Value.int IntKind.u8 b, Value.int IntKind.u8 t, Value.bool mu, Value.int IntKind.u32 a] ∧ h = issueI (Array.extract ts (0 : Nat) (64 : Nat)) ∧ e = (0 : Int) ∧ True)) ∧ (((!issueOk (Array.extract ts (0 : Nat) (64 : Nat))) == false) = false → (Array.size ts = (144 : Nat) ∧ True) ∧ (Array.size ts = (144 : Nat) ∧ Array.size ts = (144 : Nat) ∧ True) ∧ (Array.size ts = (144 : Nat) ∧ True) ∧ o = ts ∧ h = (0 : Int) ∧ e = (7 : Int) ∧ True))) := by kernel_rfl
theorem cl0 (ts : Array Value) (r : Int) (o : Array Value) : (run EL0 1000 0 [callFr 10 Try.f10.ntmps [tkS ts, u32 r] (Try.f10.body.getD .skip)] e0M).vc (retOk 0 [] (tkS o) e0M) (fun _ _ => False) =
    ((Array.size ts = (144 : Nat) ∧ True) ∧ (Array.size ts = (144 : Nat) ∧ True) ∧ (Array.size ts = (144 : Nat) ∧ True) ∧ (TsOk ts ∧ True) ∧ (decide (List.length (whL (bkT ts) (aP ts r) (16 : Nat)) = (0 : Nat)) = true → (TsOk ts ∧ True) ∧ (Array.size ts = (144 : Nat) ∧ Array.size ts = (144 : Nat) ∧ True) ∧ (Array.size ts = (144 : Nat) ∧ True) ∧ o = ts ∧ True) ∧ (decide (List.length (whL (bkT ts) (aP ts r) (16 : Nat)) = (0 : Nat)) = false → (TsOk ts ∧ (∀ (x : Int), List.Mem x (ints (u32s (whL (bkT ts) (aP ts r) (16 : Nat)))) → ((0 : Int) ≤ x ∧ x < (4294967296 : Int)) ∧ slotI x < (16 : Int)) ∧ List.length (ints (u32s (whL (bkT ts) (aP ts r) (16 : Nat)))) ≤ (32 : Nat) ∧ u32s (whL (bkT ts) (aP ts r) (16 : Nat)) = u32s (ints (u32s (whL (bkT ts) (aP ts r) (16 : Nat)))) ∧ List.length (whL (bkT ts) (aP ts r) (16 : Nat)) = List.length (ints (u32s (whL (bkT ts) (aP ts r) (16 : Nat)))) ∧ True) ∧ (Array.size (outT ts (ints (u32s (whL (bkT ts) (aP ts r) (16 : Nat)))) (List.length (ints (u32s (whL (bkT ts) (aP ts r) (16 : Nat)))))) = (144 : Nat) ∧ Array.size (outT ts (ints (u32s (whL (bkT ts) (aP ts r) (16 : Nat)))) (List.length (ints (u32s (whL (bkT ts) (aP ts r) (16 : Nat)))))) = (144 : Nat) ∧ True) ∧ (Array.size (outT ts (ints (u32s (whL (bkT ts) (aP ts r) (16 : Nat)))) (List.length (ints (u32s (whL (bkT ts) (aP ts r) (16 : Nat)))))) = (144 : Nat) ∧ True) ∧ o = outT ts (ints (u32s (whL (bkT ts) (aP ts r) (16 : Nat)))) (List.length (ints (u32s (whL (bkT ts) (aP ts r) (16 : Nat))))) ∧ True)) := by kernel_rfl
end Go.Proofs.Ytnjmockpdmchcaa
/- Of token: the contracts of Lend, Clear. No condition. -/
namespace Go.Proofs.Ytnjmockpdmchcaa
set_option maxRecDepth 100000
set_option linter.unusedSimpArgs false
set_option linter.unusedVariables false
section
variable {ts : Array Value}
def onL (ts : Array Value) (r : Int) : List Int := whL (bkT ts) (aP ts r) 16
def clearT (ts : Array Value) (r : Int) : Array Value := outT ts (onL ts r) (onL ts r).length
theorem wh_hs (h : TsOk ts) {p : Nat → Bool} : HsOk (whL (bkT ts) p 16) := by
  intro y hy
  obtain ⟨s1, s2, s3, s4, s5, s6, s7, s8⟩ := good_slot h (wh_good h hy).1
  exact ⟨s7, s2⟩
theorem clear_con (r : Int) (m : SMem) : Con E0 10 [tkS ts, u32 r] m (needs [TsOk ts] (.ret (tkS (clearT ts r)) m)) := by
  refine Con.pure E0_ok (by kernel_rfl : E0.fn 10 = some Try.f10) (by kernel_rfl : Try.f10.body = some (Try.f10.body.getD .skip)) (by kernel_rfl) (by kernel_rfl) fun hq => ?_
  have h : TsOk ts := hq _ (by simp)
  refine (Good.ret [] (run_vc EL0_ok 1000 (cl0 ts r (clearT ts r)) ?_ (fun s m h => h) fun _ _ h => h.elim)).mono fun _ _ h => h.1
  have ho := (outT_ok h (wh_hs (p := aP ts r) h) (onL ts r).length (Nat.le_refl _)).sz
  have hl : ∀ y, List.Mem y (onL ts r) → (0 ≤ y ∧ y < 4294967296) ∧ slotI y < 16 := fun y hy => wh_hs h y hy
  have hle : (onL ts r).length ≤ 16 := whL_le 16
  have e1 : whL (bkT ts) (aP ts r) 16 = onL ts r := rfl
  simp only [e1, ints_u32s]
  cases c : decide ((onL ts r).length = 0) with
  | true =>
    have c0 := List.eq_nil_of_length_eq_zero (of_decide_eq_true c)
    have e2 : clearT ts r = ts := by unfold clearT; rw [c0]; rfl
    simp only [c, e2, h.sz, true_implies, Bool.true_eq_false, Bool.false_eq_true, false_implies, and_true, true_and]
    exact ⟨h, h⟩
  | false =>
    have ho' : (outT ts (onL ts r) (onL ts r).length).size = 144 := ho
    simp only [c, ho', h.sz, true_implies, Bool.true_eq_false, Bool.false_eq_true, false_implies, and_true, true_and]
    exact ⟨h, ⟨h, hl, by omega⟩, rfl⟩
def lendOk (ts : Array Value) (r b t : Int) (mu : Bool) (a : Int) : Bool := decide (mayE ts r b t mu a = 0) && (issueOk (bkT ts) && decide (slotI (issueI (bkT ts)) < 16))
def newT (ts : Array Value) (r b t : Int) (mu : Bool) (a : Int) : Array Value := putAt (putAt ts 0 (issueB (bkT ts)).toList) (64 + sl (issueI (bkT ts)) * 5) [.int .u32 r, .int .u8 b, .int .u8 t, .bool mu, .int .u32 a]
def lendT (ts : Array Value) (r b t : Int) (mu : Bool) (a : Int) : Array Value := if lendOk ts r b t mu a = true then newT ts r b t mu a else ts
def lendI (ts : Array Value) (r b t : Int) (mu : Bool) (a : Int) : Int := if lendOk ts r b t mu a = true then issueI (bkT ts) else 0
def lendE (ts : Array Value) (r b t : Int) (mu : Bool) (a : Int) : Int := if mayE ts r b t mu a = 0 then (if lendOk ts r b t mu a = true then 0 else 7) else mayE ts r b t mu a
theorem issue_in (h : TsOk ts) : inH (issueI (bkT ts)) ∧ 0 ≤ slotI (issueI (bkT ts)) := by
  have h1 : inH (issueI (bkT ts)) := by
    rcases issue_cases (bs := bkT ts) with ⟨_, _, e, _⟩ | ⟨i, h1, _, _, e, _, _⟩
    · rw [e]; exact ⟨by decide, by decide⟩
    · rw [e]
      have := h.bk.ra i h1
      unfold inH nameI
      omega
  exact ⟨h1, (slotI_lt h1).1⟩
theorem lend_con (r b t : Int) (mu : Bool) (a : Int) (m : SMem) : Con E0 12 [tkS ts, tokS r b t mu a] m (needs [TsOk ts, inH a] (.ret (.tup [.agg (.op (lendT ts r b t mu a)), .c (.f (.int .u32 (.o (lendI ts r b t mu a)))), .c (.f (.int .i64 (.o (lendE ts r b t mu a))))]) m)) := by
  refine Con.pure E0_ok (by kernel_rfl : E0.fn 12 = some Try.f12) (by kernel_rfl : Try.f12.body = some (Try.f12.body.getD .skip)) (by kernel_rfl) (by kernel_rfl) fun hq => ?_
  have h : TsOk ts := hq _ (by simp)
  have ha : inH a := hq _ (by simp)
  have ha' : 0 ≤ a ∧ a < 4294967296 := ha
  refine (Good.ret [] (run_vc EL0_ok 1000 (ln0 ts r b t mu a (lendT ts r b t mu a) (lendI ts r b t mu a) (lendE ts r b t mu a)) ?_ (fun s m h => h) fun _ _ h => h.elim)).mono fun _ _ h => h.1
  have hs := h.sz
  have hbk : BkOk (bkT ts) := h.bk
  have hib := (issue_bk h.bk).sz
  obtain ⟨hi1, hi2⟩ := issue_in h
  have hi1' : 0 ≤ issueI (bkT ts) ∧ issueI (bkT ts) < 4294967296 := hi1
  by_cases hm : mayE ts r b t mu a = 0
  · have d0 : (mayE ts r b t mu a != 0) = false := by rw [hm]; rfl
    cases ho : issueOk (bkT ts) with
    | false =>
      have hk : lendOk ts r b t mu a = false := by unfold lendOk; rw [ho]; simp
      have e1 : lendT ts r b t mu a = ts := by unfold lendT; rw [hk]; rfl
      have e2 : lendI ts r b t mu a = 0 := by unfold lendI; rw [hk]; rfl
      have e3 : lendE ts r b t mu a = 7 := by unfold lendE; rw [if_pos hm, hk]; rfl
      simp only [bk_fold, d0, ho, e1, e2, e3, hs, hib, beqT, beqF, Bool.not_true, Bool.not_false, true_implies, Bool.true_eq_false, Bool.false_eq_true, false_implies, and_true, true_and]
      repeat' first | exact h | exact hbk | exact ha'.1 | exact ha'.2 | exact hi1'.1 | exact hi1'.2 | exact trivial | exact rfl | omega | apply And.intro
    | true =>
      by_cases c : slotI (issueI (bkT ts)) < 16
      · have d1 : decide (slotI (issueI (bkT ts)) ≥ 16) = false := decide_eq_false (by omega)
        have hk : lendOk ts r b t mu a = true := by unfold lendOk; rw [ho, hm, decide_eq_true c]; rfl
        have e1 : lendT ts r b t mu a = newT ts r b t mu a := by unfold lendT; rw [if_pos hk]
        have e2 : lendI ts r b t mu a = issueI (bkT ts) := by unfold lendI; rw [if_pos hk]
        have e3 : lendE ts r b t mu a = 0 := by unfold lendE; rw [if_pos hm, if_pos hk]
        have hl : (issueB (bkT ts)).toList.length = 64 := by simpa using hib
        obtain ⟨p1, p2, p3⟩ := put_bk (bs := issueB (bkT ts)) hs hib
        have hsl : (slotI (issueI (bkT ts))).toNat < 16 := by omega
        obtain ⟨q1, q2, q3⟩ := put_tk (q := (slotI (issueI (bkT ts))).toNat) (l := [.int .u32 r, .int .u8 b, .int .u8 t, .bool mu, .int .u32 a]) p1 hsl rfl
        have h5 : List.length [Value.int .u32 r, Value.int .u8 b, Value.int .u8 t, Value.bool mu, Value.int .u32 a] = 5 := rfl
        simp only [d0, (show decide (slotI (issueI (ts.extract 0 64)) ≥ 16) = false from d1)]
        simp only [bk_fold, d0, ho,  e1, e2, e3, hs, hib, p1, q1, h5, beqT, beqF, Bool.not_true, Bool.not_false, true_implies, Bool.true_eq_false, Bool.false_eq_true, false_implies, and_true, true_and]
        repeat' first | exact h | exact hbk | exact ha'.1 | exact ha'.2 | exact hi1'.1 | exact hi1'.2 | exact trivial | exact rfl | omega | apply And.intro
      · have d1 : decide (slotI (issueI (bkT ts)) ≥ 16) = true := decide_eq_true (by omega)
        have hk : lendOk ts r b t mu a = false := by unfold lendOk; rw [decide_eq_false c]; simp
        have e1 : lendT ts r b t mu a = ts := by unfold lendT; rw [hk]; rfl
        have e2 : lendI ts r b t mu a = 0 := by unfold lendI; rw [hk]; rfl
        have e3 : lendE ts r b t mu a = 7 := by unfold lendE; rw [if_pos hm, hk]; rfl
        simp only [d0, (show decide (slotI (issueI (ts.extract 0 64)) ≥ 16) = true from d1)]
        simp only [bk_fold, d0, ho, e1, e2, e3, hs, hib, beqT, beqF, Bool.not_true, Bool.not_false, true_implies, Bool.true_eq_false, Bool.false_eq_true, false_implies, and_true, true_and]
        repeat' first | exact h | exact hbk | exact ha'.1 | exact ha'.2 | exact hi1'.1 | exact hi1'.2 | exact trivial | exact rfl | omega | apply And.intro
  · have d0 : (mayE ts r b t mu a != 0) = true := bne_iff_ne.2 hm
    have hk : lendOk ts r b t mu a = false := by unfold lendOk; rw [decide_eq_false hm]; rfl
    have e1 : lendT ts r b t mu a = ts := by unfold lendT; rw [hk]; rfl
    have e2 : lendI ts r b t mu a = 0 := by unfold lendI; rw [hk]; rfl
    have e3 : lendE ts r b t mu a = mayE ts r b t mu a := by unfold lendE; rw [if_neg hm]
    simp only [d0, e1, e2, e3, hs, true_implies, Bool.true_eq_false, Bool.false_eq_true, false_implies, and_true, true_and]
    repeat' first | exact h | exact hbk | exact ha'.1 | exact ha'.2 | exact trivial | exact rfl | omega | apply And.intro
end
end Go.Proofs.Ytnjmockpdmchcaa
/- Of token: what is always so of tokens: who lends whom what. No condition. -/
namespace Go.Proofs.Ytnjmockpdmchcaa
set_option maxRecDepth 100000
set_option linter.unusedSimpArgs false
set_option linter.unusedVariables false
def gd (ts : Array Value) (x : Int) : Prop := goodB (bkT ts) x = true
def rR (ts : Array Value) (x : Int) : Int := tR ts (sl x)
def rA (ts : Array Value) (x : Int) : Int := tA ts (sl x)
def rMu (ts : Array Value) (x : Int) : Bool := tM ts (sl x)
structure Inv (ts : Array Value) : Prop where
  ok : TsOk ts
  reg : ∀ x, gd ts x → rA ts x ≠ 0 → gd ts (rA ts x) ∧ rR ts (rA ts x) = rR ts x
  mt : ∀ x, gd ts x → rMu ts x = true → rA ts x ≠ 0 → rMu ts (rA ts x) = true
  only : ∀ x y, gd ts x → gd ts y → rR ts x = rR ts y → rA ts x = rA ts y → rMu ts x = true → x = y
  ne : ∀ x, gd ts x → tB ts (sl x) ≠ tT ts (sl x)
  rk : ∃ (f : Int → Nat) (B : Nat), (∀ x, gd ts x → f x ≤ B) ∧ ∀ x, gd ts x → rA ts x ≠ 0 → f (rA ts x) < f x
section
variable {ts ts' : Array Value}
theorem Inv.less (h : Inv ts) (ok : TsOk ts') (h1 : ∀ y, gd ts' y → gd ts y ∧ tk5 ts' (sl y) = tk5 ts (sl y)) (h2 : ∀ y, gd ts' y → rA ts y ≠ 0 → gd ts' (rA ts y)) : Inv ts' := by
  have eR : ∀ y, gd ts' y → rR ts' y = rR ts y := fun y hy => by show intAt _ _ = intAt _ _; rw [(h1 y hy).2]
  have eA : ∀ y, gd ts' y → rA ts' y = rA ts y := fun y hy => by show intAt _ _ = intAt _ _; rw [(h1 y hy).2]
  have eM : ∀ y, gd ts' y → rMu ts' y = rMu ts y := fun y hy => by show boolAt _ _ = boolAt _ _; rw [(h1 y hy).2]
  refine ⟨ok, fun x hx ha => ?_, fun x hx hm ha => ?_, fun x y hx hy e1 e2 hm => ?_, fun x hx => ?_, ?_⟩
  · rw [eA x hx] at ha ⊢
    have h3 := h2 x hx ha
    rw [eR x hx, eR _ h3]
    exact ⟨h3, (h.reg x (h1 x hx).1 ha).2⟩
  · rw [eA x hx] at ha ⊢
    rw [eM x hx] at hm
    rw [eM _ (h2 x hx ha)]
    exact h.mt x (h1 x hx).1 hm ha
  · rw [eR x hx, eR y hy] at e1
    rw [eA x hx, eA y hy] at e2
    rw [eM x hx] at hm
    exact h.only x y (h1 x hx).1 (h1 y hy).1 e1 e2 hm
  · have := h.ne x (h1 x hx).1
    show intAt _ _ ≠ intAt _ _
    rw [(h1 x hx).2]
    exact this
  · obtain ⟨f, B, k1, k2⟩ := h.rk
    refine ⟨f, B, fun x hx => k1 x (h1 x hx).1, fun x hx ha => ?_⟩
    rw [eA x hx] at ha ⊢
    exact k2 x (h1 x hx).1 ha
theorem sl_inj (h : TsOk ts) {x y : Int} (hx : gd ts x) (hy : gd ts y) (e : sl x = sl y) : x = y := by
  obtain ⟨_, _, _, _, _, hx6, _, _⟩ := good_slot h hx
  obtain ⟨_, _, _, _, _, hy6, _, _⟩ := good_slot h hy
  rw [hx6, hy6, e]
theorem out_facts (h : TsOk ts) {l : List Int} (hl : HsOk l) (hg : ∀ x ∈ l, gd ts x) : ∀ i, i ≤ l.length → (∀ y, gd (outT ts l i) y ↔ gd ts y ∧ y ∉ l.take i) ∧ ∀ y, gd (outT ts l i) y → tk5 (outT ts l i) (sl y) = tk5 ts (sl y)
  | 0, _ => ⟨fun y => ⟨fun h => ⟨h, by simp⟩, fun h => h.1⟩, fun y _ => rfl⟩
  | i + 1, hi => by
    obtain ⟨k1, k2⟩ := out_facts h hl hg i (by omega)
    have hi' : i < l.length := by omega
    have hm : l.getD i 0 ∈ l := by rw [List.getD_eq_getElem?_getD, List.getElem?_eq_getElem hi']; exact List.getElem_mem _
    have hx := hl _ hm
    have ho := outT_ok h hl i (by omega)
    have hs16 : sl (l.getD i 0) < 16 := by have := slotI_lt hx.1; unfold sl; omega
    obtain ⟨c1, c2, c3⟩ := clr_facts ho hx.1 hs16
    have hgy : ∀ y, gd (outT ts l (i + 1)) y ↔ gd (outT ts l i) y ∧ y ≠ l.getD i 0 := by
      intro y
      show goodB (bkT (clrT (outT ts l i) (l.getD i 0))) y = true ↔ _
      rw [c2, void_good ho.bk, Bool.and_eq_true, Bool.not_eq_true', decide_eq_false_iff_not]
      exact Iff.rfl
    have ht : l.take (i + 1) = l.take i ++ [l.getD i 0] := by
      rw [List.take_add_one, List.getElem?_eq_getElem hi', List.getD_eq_getElem?_getD, List.getElem?_eq_getElem hi']
      rfl
    refine ⟨fun y => ?_, fun y hy => ?_⟩
    · rw [hgy, k1, ht, List.mem_append, List.mem_singleton, not_or, and_assoc]
    · obtain ⟨h3, h4⟩ := (hgy y).1 hy
      obtain ⟨_, _, g3, _⟩ := good_slot ho h3
      show tk5 (clrT (outT ts l i) (l.getD i 0)) (sl y) = _
      rw [c3 _ g3, if_neg ?_, k2 y h3]
      intro e
      exact h4 (sl_inj h ((k1 y).1 h3).1 (hg _ hm) e)
theorem Inv.out (h : Inv ts) {l : List Int} (hl : HsOk l) (hg : ∀ x ∈ l, gd ts x) (hd : ∀ y, gd ts y → rA ts y ≠ 0 → rA ts y ∈ l → y ∈ l) : Inv (outT ts l l.length) := by
  obtain ⟨k1, k2⟩ := out_facts h.ok hl hg l.length (Nat.le_refl _)
  rw [List.take_length] at k1
  refine h.less (outT_ok h.ok hl _ (Nat.le_refl _)) (fun y hy => ⟨((k1 y).1 hy).1, k2 y hy⟩) fun y hy ha => ?_
  obtain ⟨h1, h2⟩ := (k1 y).1 hy
  exact (k1 _).2 ⟨(h.reg y h1 ha).1, fun hm => h2 (hd y h1 ha hm)⟩
theorem kids_mem (h : TsOk ts) {x k : Int} : k ∈ kidsT ts x ↔ gd ts k ∧ rA ts k = x := by
  unfold kidsT
  rw [wh_mem h]
  show _ ∧ (intAt (tk5 ts (sl k)) 4 == x) = true ↔ _
  rw [beq_iff_eq]
  exact Iff.rfl
theorem Inv.deep (h : Inv ts) {x : Int} (hx : gd ts x) : ∃ n, Deep ts n x := by
  obtain ⟨f, B, k1, k2⟩ := h.rk
  have key : ∀ (n : Nat) (x : Int), gd ts x → B + 1 - f x ≤ n → Deep ts n x := by
    intro n
    induction n with
    | zero => intro x hx hn; have := k1 x hx; omega
    | succ n ih =>
      intro x hx hn k hk
      obtain ⟨g1, g2⟩ := (kids_mem h.ok).1 hk
      have hx0 : x ≠ 0 := fun e => by have := (good_slot h.ok hx).2.2.2.2.2.2.2; omega
      have := k2 k g1 (by rw [g2]; exact hx0)
      rw [g2] at this
      have := k1 k g1
      exact ih k g1 (by omega)
  exact ⟨B + 1 - f x, key _ x hx (Nat.le_refl _)⟩
theorem below_last {x y z : Int} (h : Below1 ts x y) (hk : z ∈ kidsT ts y) : Below1 ts x z := by
  induction h with
  | self h => exact .kid hk (.self z)
  | kid h1 _ ih => exact .kid h1 (ih hk)
theorem Inv.ret (h : Inv ts) {x : Int} (hx : gd ts x) : Inv (retT ts x) := by
  have hd := depN_ok (h.deep hx)
  refine h.out (gone_hs h.ok) (fun y hy => ((gone_mem h.ok hd).1 hy).1) fun y hy ha hm => ?_
  obtain ⟨g1, g2⟩ := (gone_mem h.ok hd).1 hm
  exact (gone_mem h.ok hd).2 ⟨hy, below_last g2 ((kids_mem h.ok).2 ⟨hy, rfl⟩)⟩
theorem on_mem (h : TsOk ts) {r x : Int} : x ∈ onL ts r ↔ gd ts x ∧ rR ts x = r := by
  unfold onL
  rw [wh_mem h]
  show _ ∧ (intAt (tk5 ts (sl x)) 0 == r) = true ↔ _
  rw [beq_iff_eq]
  exact Iff.rfl
theorem Inv.clear (h : Inv ts) (r : Int) : Inv (clearT ts r) := by
  refine h.out (wh_hs h.ok) (fun y hy => ((on_mem h.ok).1 hy).1) fun y hy ha hm => ?_
  exact (on_mem h.ok).2 ⟨hy, ((h.reg y hy ha).2).symm.trans ((on_mem h.ok).1 hm).2⟩
theorem free_iff (h : TsOk ts) {r a : Int} {all : Bool} : freeB ts r a all = true ↔ ∀ y, gd ts y → rR ts y = r → rA ts y = a → (rMu ts y || !all) = false := by
  unfold freeB
  rw [decide_eq_true_eq]
  constructor
  · intro e y hy h1 h2
    cases hc : (rMu ts y || !all) with
    | false => rfl
    | true =>
      have hm : y ∈ whL (bkT ts) (dP ts r a all) 16 := (wh_mem h).2 ⟨hy, by
        unfold dP
        rw [show (intAt (tk5 ts (sl y)) 0 == r) = true from beq_iff_eq.2 h1, show (intAt (tk5 ts (sl y)) 4 == a) = true from beq_iff_eq.2 h2]
        exact hc⟩
      rw [List.eq_nil_of_length_eq_zero e] at hm
      cases hm
  · intro hn
    cases hc : whL (bkT ts) (dP ts r a all) 16 with
    | nil => rfl
    | cons y l =>
      exfalso
      have hm : y ∈ whL (bkT ts) (dP ts r a all) 16 := by rw [hc]; exact List.mem_cons_self ..
      obtain ⟨g1, g2⟩ := (wh_mem h).1 hm
      unfold dP at g2
      simp only [Bool.and_eq_true, beq_iff_eq] at g2
      have := hn y g1 g2.1 g2.2.1
      have g3 : (rMu ts y || !all) = true := g2.2.2
      rw [this] at g3
      cases g3
theorem Inv.lend (h : Inv ts) {r b t : Int} {mu : Bool} {a : Int} (hr : inH r) (hb : 0 ≤ b ∧ b ≤ 255) (ht : 0 ≤ t ∧ t ≤ 255) (ha : inH a) : Inv (lendT ts r b t mu a) := by
  cases hk : lendOk ts r b t mu a with
  | false => unfold lendT; rw [hk]; exact h
  | true =>
    have e0 : lendT ts r b t mu a = newT ts r b t mu a := by unfold lendT; rw [if_pos hk]
    rw [e0]
    unfold lendOk at hk
    simp only [Bool.and_eq_true, decide_eq_true_eq] at hk
    obtain ⟨hm, ho, hs16⟩ := hk
    have hib := issue_bk h.ok.bk
    obtain ⟨hi1, hi2⟩ := issue_in h.ok
    have hq : sl (issueI (bkT ts)) < 16 := by unfold sl; omega
    obtain ⟨p1, p2, p3⟩ := put_bk (bs := issueB (bkT ts)) h.ok.sz hib.sz
    obtain ⟨q1, q2, q3⟩ := put_tk (q := sl (issueI (bkT ts))) (l := [.int .u32 r, .int .u8 b, .int .u8 t, .bool mu, .int .u32 a]) p1 hq rfl
    have eb : bkT (newT ts r b t mu a) = issueB (bkT ts) := q2.trans p2
    have et : ∀ i, i < 16 → tk5 (newT ts r b t mu a) i = if i = sl (issueI (bkT ts)) then #[.int .u32 r, .int .u8 b, .int .u8 t, .bool mu, .int .u32 a] else tk5 ts i := fun i hi => by
      show tk5 (putAt _ _ _) i = _
      rw [q3 i hi]
      split
      · rfl
      · exact p3 i hi
    rcases issue_cases (bs := bkT ts) with ⟨_, _, _, e⟩ | ⟨q, c1, c2, c3, c4, c5, _⟩
    · rw [ho] at e; cases e
    have hqq : sl (issueI (bkT ts)) = q := by rw [c4]; exact slotI_name c1 (h.ok.bk.ra q c1)
    have hg : ∀ y, gd (newT ts r b t mu a) y ↔ gd ts y ∨ y = issueI (bkT ts) := by
      intro y
      show goodB (bkT (newT ts r b t mu a)) y = true ↔ _
      rw [eb, issue_good h.ok.bk, ho, Bool.true_and, Bool.or_eq_true, decide_eq_true_eq]
      exact Iff.rfl
    have hold : ∀ y, gd ts y → sl y ≠ sl (issueI (bkT ts)) := by
      intro y hy e
      obtain ⟨_, _, _, _, s5, _⟩ := good_slot h.ok hy
      rw [e, hqq, c2] at s5
      cases s5
    have hnew : ¬ gd ts (issueI (bkT ts)) := fun hy => hold _ hy rfl
    have told : ∀ y, gd ts y → tk5 (newT ts r b t mu a) (sl y) = tk5 ts (sl y) := fun y hy => by
      rw [et _ (good_slot h.ok hy).2.2.1, if_neg (hold y hy)]
    have tnew : tk5 (newT ts r b t mu a) (sl (issueI (bkT ts))) = #[.int .u32 r, .int .u8 b, .int .u8 t, .bool mu, .int .u32 a] := by rw [et _ hq, if_pos rfl]
    have ok' : TsOk (newT ts r b t mu a) := by
      refine ⟨q1, by rw [eb]; exact hib, fun i hi => ?_, fun i h1 h2 => ?_⟩
      · rw [et i hi]
        split
        · exact ⟨rfl, rfl, rfl, rfl, rfl, hr, hb, ht, ha⟩
        · exact h.ok.tk i hi
      · rw [eb, c3, kind_set h.ok.bk.sz c1, if_neg (by omega)]
        exact h.ok.hi i h1 h2
    -- what may be
    have m1 : goodT ts a = true := by
      cases c : goodT ts a with
      | true => rfl
      | false => unfold mayE at hm; rw [if_pos c] at hm; cases hm
    have m2 : mayBad r b t = false := by
      cases c : mayBad r b t with
      | false => rfl
      | true => unfold mayE at hm; rw [m1, if_neg (by simp), if_pos c] at hm; cases hm
    have m3 : mayUp ts r b mu a = false := by
      cases c : mayUp ts r b mu a with
      | false => rfl
      | true => unfold mayE at hm; rw [m1, m2, if_neg (by simp), if_neg (by simp), if_pos c] at hm; cases hm
    have m4 : freeB ts r a (!mu) = true := by
      cases c : freeB ts r a (!mu) with
      | true => rfl
      | false => unfold mayE at hm; rw [m1, m2, m3, c, if_neg (by simp), if_neg (by simp), if_neg (by simp), if_neg (by simp)] at hm; cases hm
    have hfree := (free_iff h.ok).1 m4
    have hup : a ≠ 0 → gd ts a ∧ rR ts a = r ∧ (mu = true → rMu ts a = true) := by
      intro ha0
      have hga : goodB (bkT ts) a = true := by
        unfold goodT at m1
        rw [Bool.or_eq_true] at m1
        exact m1.resolve_left (by simpa using ha0)
      unfold mayUp at m3
      rw [hga, Bool.true_and, Bool.or_eq_false_iff, Bool.or_eq_false_iff] at m3
      refine ⟨hga, (show tR ts (sl a) = r by simpa using m3.1), fun e => ?_⟩
      have := m3.2.2
      rw [e, Bool.true_and] at this
      show tM ts (sl a) = true
      simpa using this
    have hbt : b ≠ t := by
      unfold mayBad at m2
      rw [Bool.or_eq_false_iff, Bool.or_eq_false_iff, Bool.or_eq_false_iff] at m2
      simpa using m2.2.2.1
    generalize hH : issueI (bkT ts) = H at *
    generalize hts' : newT ts r b t mu a = ts' at *
    have oR : ∀ y, gd ts y → rR ts' y = rR ts y := fun y hy => by show intAt _ _ = intAt _ _; rw [told y hy]
    have oA : ∀ y, gd ts y → rA ts' y = rA ts y := fun y hy => by show intAt _ _ = intAt _ _; rw [told y hy]
    have oM : ∀ y, gd ts y → rMu ts' y = rMu ts y := fun y hy => by show boolAt _ _ = boolAt _ _; rw [told y hy]
    have nR : rR ts' H = r := by show intAt _ _ = _; rw [tnew]; rfl
    have nA : rA ts' H = a := by show intAt _ _ = _; rw [tnew]; rfl
    have nM : rMu ts' H = mu := by show boolAt _ _ = _; rw [tnew]; rfl
    refine ⟨ok', fun x hx h0 => ?_, fun x hx hmx h0 => ?_, fun x y hx hy e1 e2 hmx => ?_, fun x hx => ?_, ?_⟩
    · rcases (hg x).1 hx with hx | rfl
      · rw [oA x hx] at h0 ⊢
        obtain ⟨g1, g2⟩ := h.reg x hx h0
        rw [oR x hx, oR _ g1]
        exact ⟨(hg _).2 (.inl g1), g2⟩
      · rw [nA] at h0 ⊢
        obtain ⟨g1, g2, _⟩ := hup h0
        rw [nR, oR a g1]
        exact ⟨(hg _).2 (.inl g1), g2⟩
    · rcases (hg x).1 hx with hx | rfl
      · rw [oA x hx] at h0 ⊢
        rw [oM x hx] at hmx
        rw [oM _ (h.reg x hx h0).1]
        exact h.mt x hx hmx h0
      · rw [nA] at h0 ⊢
        rw [nM] at hmx
        obtain ⟨g1, _, g3⟩ := hup h0
        rw [oM a g1]
        exact g3 hmx
    · rcases (hg x).1 hx with hx | rfl
      · rw [oR x hx] at e1
        rw [oA x hx] at e2
        rw [oM x hx] at hmx
        rcases (hg y).1 hy with hy | rfl
        · rw [oR y hy] at e1
          rw [oA y hy] at e2
          exact h.only x y hx hy e1 e2 hmx
        · rw [nR] at e1
          rw [nA] at e2
          have := hfree x hx e1 e2
          rw [hmx] at this
          cases this
      · rcases (hg y).1 hy with hy | e
        · rw [nR, oR y hy] at e1
          rw [nA, oA y hy] at e2
          rw [nM] at hmx
          have := hfree y hy e1.symm e2.symm
          rw [hmx] at this
          simp at this
        · exact e.symm
    · rcases (hg x).1 hx with hx | rfl
      · show intAt _ _ ≠ intAt _ _
        rw [told x hx]
        exact h.ne x hx
      · show intAt _ _ ≠ intAt _ _
        rw [tnew]
        exact hbt
    · obtain ⟨f, B, k1, k2⟩ := h.rk
      refine ⟨fun x => if x = H then (if a = 0 then 0 else f a + 1) else f x, B + 1, fun x hx => ?_, fun x hx h0 => ?_⟩
      · dsimp only
        rcases (hg x).1 hx with hx | rfl
        · have := k1 x hx
          rw [if_neg (fun e : x = H => hnew (e ▸ hx))]; omega
        · rw [if_pos rfl]
          split
          · omega
          · rename_i ha0
            have := k1 a (hup ha0).1
            omega
      · dsimp only
        rcases (hg x).1 hx with hx | rfl
        · rw [oA x hx] at h0 ⊢
          have hne : rA ts x ≠ H := fun e => hnew (e ▸ (h.reg x hx h0).1)
          rw [if_neg hne, if_neg (fun e : x = H => hnew (e ▸ hx))]
          exact k2 x hx h0
        · rw [nA] at h0 ⊢
          have hne : a ≠ x := fun e => hnew (e ▸ (hup h0).1)
          rw [if_neg hne, if_pos rfl, if_neg h0]
          omega
end
end Go.Proofs.Ytnjmockpdmchcaa
/- Of token: the document's Reads, Writes, Get: contracts; the program's tokens and the document's. No condition. -/
namespace Go.Proofs.Ytnjmockpdmchcaa
set_option maxRecDepth 100000
set_option linter.unusedSimpArgs false
set_option linter.unusedVariables false
section
variable {ts ws : Array Value}
def wC (ws : Array Value) (i j : Nat) : Int := intAt ws (64 + i * 5 + j)
def wM (ws : Array Value) (i : Nat) : Bool := boolAt ws (64 + i * 5 + 3)
def hitW (ws : Array Value) (r a : Int) (all : Bool) (i : Nat) : Bool := (isW (rbT ws) i == 1) && ((wC ws i 0 == r) && ((wC ws i 4 == a) && (wM ws i || !all)))
def noneF (p : Nat → Bool) : Nat → Nat → Bool
  | 0, _ => true
  | k + 1, i => if p i = true then false else noneF p k (i + 1)
theorem noneF_succ (p : Nat → Bool) (k i : Nat) : noneF p (k + 1) i = if p i = true then false else noneF p k (i + 1) := rfl
theorem noneF_iff {p : Nat → Bool} : ∀ {k i : Nat}, noneF p k i = true ↔ ∀ j, i ≤ j → j < i + k → p j = false
  | 0, i => ⟨fun _ j h1 h2 => (by omega), fun _ => rfl⟩
  | k + 1, i => by
    rw [noneF_succ]
    split
    · rename_i e
      refine ⟨fun h => (by cases h), fun h => ?_⟩
      have := h i (Nat.le_refl _) (by omega)
      rw [e] at this
      cases this
    · rename_i e
      rw [noneF_iff]
      refine ⟨fun h j h1 h2 => ?_, fun h j h1 h2 => h j (by omega) (by omega)⟩
      by_cases c : j = i
      · rw [c]; simpa using e
      · exact h j (by omega) (by omega)
def okW (ws : Array Value) (a : Int) : Bool := (a == 0) || decide (slotW (rbT ws) a ≥ 0)
def readsW (ws : Array Value) (r a : Int) : Bool := noneF (hitW ws r a true) 32 0 && okW ws a
def writesW (ws : Array Value) (r a : Int) : Bool := noneF (hitW ws r a false) 32 0 && okW ws a
theorem rbT_get (h : ws.size = 224) {k : Nat} (hk : k < 64) : (rbT ws)[k]? = ws[k]? := by
  unfold rbT
  rw [ext_get (by omega) (by omega), Nat.zero_add]
theorem is_cell (h : WsOk ws) {i : Nat} (hi : i < 32) : IsInt .i64 ws (32 + i) ∧ intAt ws (32 + i) = isW (rbT ws) i := by
  have := h.rb.c (32 + i) (by omega)
  unfold isW
  unfold IsInt intAt at *
  rw [rbT_get h.sz (by omega)] at *
  exact ⟨this, rfl⟩
theorem conD0_ok : ∀ g l m t, conD0 g l m = some t → Con E0 g l m t := by
  intro g l m t h
  unfold conD0 at h
  split at h
  · rename_i rb x; cases h
    refine Con.asked fun hq => Con.args (l' := [rbS rb, i64 (.o x.den)]) (fun R vs ha => by
      match vs, ha with
      | [v, w], ha => exact ⟨ha.1, ha.2.1, trivial⟩) ?_
    intro A hs
    exact rslot_con x.den m A ⟨fun p hp => hq p hp, hs⟩
  · rename_i rb x; cases h
    refine Con.asked fun hq => Con.args (l' := [rbS rb, i64 (.o x.den)]) (fun R vs ha => by
      match vs, ha with
      | [v, w], ha => exact ⟨ha.1, ha.2.1, trivial⟩) ?_
    intro A hs
    exact rvoid_con x.den m A ⟨fun p hp => hq p hp, hs⟩
  · rename_i rb; cases h
    refine Con.asked fun hq => ?_
    intro A hs
    exact rissue_con m A ⟨fun p hp => hq p hp, hs⟩
  · cases h
theorem ED_ok : EnvOk ED := EnvOk.with E0_ok _ _ conD0_ok
theorem dR_ok (hw : WsOk ws) (r a : Int) : ∀ (k i : Nat), i + k = 32 → noneF (hitW ws r a true) k i = noneF (hitW ws r a true) 32 0 → Good Try.prog (retOk 0 [] (sB (.o (readsW ws r a))) e0M) 0 (dR_F ws r a (i : Int)) (dR_M ws r a (i : Int)) := by
  have hs := hw.sz
  intro k
  induction k with
  | zero =>
    intro i hi he
    refine past_vc ED_ok 1000 (dr1 ws r a (i : Int) (readsW ws r a) (fun _ => False)) ?_ (fun _ _ h => h) (fun fs m hb => dR_good (fun _ h => h.elim) hb)
    have d : decide ((i : Int) < 32) = false := decide_eq_false (by omega)
    have e : readsW ws r a = okW ws a := by unfold readsW; rw [← he]; rfl
    have hb : RbOk (ws.extract 0 64) := hw.rb
    have hle : 64 ≤ ws.size := by omega
    unfold okW at e
    cases c : (a == 0) with
    | true =>
      rw [c] at e
      simp only [Bool.true_or] at e
      simp only [d, c, e, beqF, Bool.not_true, Bool.not_false, true_implies, Bool.true_eq_false, Bool.false_eq_true, false_implies, and_true, true_and]
    | false =>
      rw [c] at e
      simp only [Bool.false_or] at e
      simp only [d, c, beqF, Bool.not_true, Bool.not_false, true_implies, Bool.true_eq_false, Bool.false_eq_true, false_implies, and_true, true_and]
      exact ⟨hle, hb, e⟩
  | succ k ih =>
    intro i hi he
    refine past_vc ED_ok 1000 (dr1 ws r a (i : Int) (readsW ws r a) (fun i' => i' = ((i + 1 : Nat) : Int) ∧ noneF (hitW ws r a true) k (i + 1) = noneF (hitW ws r a true) 32 0)) ?_ (fun _ _ h => h) (fun fs m hb => dR_good (fun i' ⟨e1, e2⟩ => by rw [e1]; exact ih (i + 1) (by omega) e2) hb)
    have d : decide ((i : Int) < 32) = true := decide_eq_true (by omega)
    have ei : ari .add .i64 (i : Int) 1 = ((i + 1 : Nat) : Int) := by rw [ari_add, i64_in' (by omega) (by omega)]; omega
    have hi32 : i < 32 := by omega
    obtain ⟨q1, q2⟩ := is_cell hw hi32
    have x0 := hw.c0 i hi32
    have x3 := hw.c3 i hi32
    have x4 := hw.c4 i hi32
    have hx0 : 0 ≤ (i : Int) := by omega
    have hx1 : (i : Int) < 32 := by omega
    have w0 : intAt ws (64 + i * 5) = wC ws i 0 := rfl
    have w4 : intAt ws (64 + i * 5 + 4) = wC ws i 4 := rfl
    have w3 : boolAt ws (64 + i * 5 + 3) = wM ws i := rfl
    rw [noneF_succ] at he
    have hit : hitW ws r a true i = true → readsW ws r a = false := fun hh => by
      rw [if_pos hh] at he
      unfold readsW
      rw [← he]; rfl
    have mis : hitW ws r a true i = false → noneF (hitW ws r a true) k (i + 1) = noneF (hitW ws r a true) 32 0 := fun hh => by
      rw [if_neg (by rw [hh]; simp)] at he
      exact he
    simp only [Int.toNat_natCast, Nat.mul_one, d, ei, hs, q1, q2, x0, x3, x4, w0, w3, w4, hx0, hx1, beqT, decide_true, true_implies, and_true, true_and, Bool.true_eq_false, false_implies, dR_d0_ok]
    cases c0 : (isW (rbT ws) i == 1) with
    | false =>
      simp only [true_implies, Bool.true_eq_false, Bool.false_eq_true, false_implies, and_true, true_and]
      exact mis (by unfold hitW; rw [c0]; rfl)
    | true =>
      simp only [true_implies, Bool.true_eq_false, false_implies, and_true, true_and]
      cases c1 : (wC ws i 0 == r) with
      | false =>
        simp only [true_implies, Bool.true_eq_false, Bool.false_eq_true, false_implies, and_true, true_and]
        exact mis (by unfold hitW; rw [c0, c1]; rfl)
      | true =>
        simp only [true_implies, Bool.true_eq_false, false_implies, and_true, true_and]
        cases c2 : (wC ws i 4 == a) with
        | false =>
          simp only [true_implies, Bool.true_eq_false, Bool.false_eq_true, false_implies, and_true, true_and]
          exact mis (by unfold hitW; rw [c0, c1, c2]; rfl)
        | true =>
          simp only [true_implies, Bool.true_eq_false, false_implies, and_true, true_and]
          cases c3 : wM ws i with
          | true =>
            have hh : hitW ws r a true i = true := by unfold hitW; rw [c0, c1, c2, c3]; rfl
            have e := hit hh
            simp only [e, true_implies, Bool.true_eq_false, false_implies, and_true]
          | false =>
            have hh : hitW ws r a true i = false := by unfold hitW; rw [c0, c1, c2, c3]; rfl
            simp only [true_implies, Bool.true_eq_false, Bool.false_eq_true, false_implies, and_true, true_and]
            exact mis hh
theorem rreads_con (r a : Int) (m : SMem) : Con E0 20 [wsS ws, i64 (.o r), i64 (.o a)] m (needs [WsOk ws] (.ret (sB (.o (readsW ws r a))) m)) := by
  refine Con.pure E0_ok (by kernel_rfl : E0.fn 20 = some Try.f20) (by kernel_rfl : Try.f20.body = some (Try.f20.body.getD .skip)) (by kernel_rfl) (by kernel_rfl) fun hq => ?_
  have hw : WsOk ws := hq _ (by simp)
  refine (Good.ret [] (run_vc ED_ok 1000 (dr0_vc ws r a (fun i => i = ((0 : Nat) : Int))) ?_ (fun s m h => h.elim) fun fs m hm => dr0_go (fun i e => by rw [e]; exact dR_ok hw r a 32 0 (by omega) rfl) hm)).mono fun _ _ h => h.1
  simp only [and_true, true_and, dR_d0_ok, dR_d0_ok]
  repeat' first | exact rfl | exact trivial | apply And.intro
theorem dW_ok (hw : WsOk ws) (r a : Int) : ∀ (k i : Nat), i + k = 32 → noneF (hitW ws r a false) k i = noneF (hitW ws r a false) 32 0 → Good Try.prog (retOk 0 [] (sB (.o (writesW ws r a))) e0M) 0 (dW_F ws r a (i : Int)) (dW_M ws r a (i : Int)) := by
  have hs := hw.sz
  intro k
  induction k with
  | zero =>
    intro i hi he
    refine past_vc ED_ok 1000 (dw1 ws r a (i : Int) (writesW ws r a) (fun _ => False)) ?_ (fun _ _ h => h) (fun fs m hb => dW_good (fun _ h => h.elim) hb)
    have d : decide ((i : Int) < 32) = false := decide_eq_false (by omega)
    have e : writesW ws r a = okW ws a := by unfold writesW; rw [← he]; rfl
    have hb : RbOk (ws.extract 0 64) := hw.rb
    have hle : 64 ≤ ws.size := by omega
    unfold okW at e
    cases c : (a == 0) with
    | true =>
      rw [c] at e
      simp only [Bool.true_or] at e
      simp only [d, c, e, beqF, Bool.not_true, Bool.not_false, true_implies, Bool.true_eq_false, Bool.false_eq_true, false_implies, and_true, true_and]
    | false =>
      rw [c] at e
      simp only [Bool.false_or] at e
      simp only [d, c, beqF, Bool.not_true, Bool.not_false, true_implies, Bool.true_eq_false, Bool.false_eq_true, false_implies, and_true, true_and]
      exact ⟨hle, hb, e⟩
  | succ k ih =>
    intro i hi he
    refine past_vc ED_ok 1000 (dw1 ws r a (i : Int) (writesW ws r a) (fun i' => i' = ((i + 1 : Nat) : Int) ∧ noneF (hitW ws r a false) k (i + 1) = noneF (hitW ws r a false) 32 0)) ?_ (fun _ _ h => h) (fun fs m hb => dW_good (fun i' ⟨e1, e2⟩ => by rw [e1]; exact ih (i + 1) (by omega) e2) hb)
    have d : decide ((i : Int) < 32) = true := decide_eq_true (by omega)
    have ei : ari .add .i64 (i : Int) 1 = ((i + 1 : Nat) : Int) := by rw [ari_add, i64_in' (by omega) (by omega)]; omega
    have hi32 : i < 32 := by omega
    obtain ⟨q1, q2⟩ := is_cell hw hi32
    have x0 := hw.c0 i hi32
    have x3 := hw.c3 i hi32
    have x4 := hw.c4 i hi32
    have hx0 : 0 ≤ (i : Int) := by omega
    have hx1 : (i : Int) < 32 := by omega
    have w0 : intAt ws (64 + i * 5) = wC ws i 0 := rfl
    have w4 : intAt ws (64 + i * 5 + 4) = wC ws i 4 := rfl
    have w3 : boolAt ws (64 + i * 5 + 3) = wM ws i := rfl
    rw [noneF_succ] at he
    have hit : hitW ws r a false i = true → writesW ws r a = false := fun hh => by
      rw [if_pos hh] at he
      unfold writesW
      rw [← he]; rfl
    have mis : hitW ws r a false i = false → noneF (hitW ws r a false) k (i + 1) = noneF (hitW ws r a false) 32 0 := fun hh => by
      rw [if_neg (by rw [hh]; simp)] at he
      exact he
    simp only [Int.toNat_natCast, Nat.mul_one, d, ei, hs, q1, q2, x0, x3, x4, w0, w3, w4, hx0, hx1, beqT, decide_true, true_implies, and_true, true_and, Bool.true_eq_false, false_implies, dW_d0_ok]
    cases c0 : (isW (rbT ws) i == 1) with
    | false =>
      simp only [true_implies, Bool.true_eq_false, Bool.false_eq_true, false_implies, and_true, true_and]
      exact mis (by unfold hitW; rw [c0]; rfl)
    | true =>
      simp only [true_implies, Bool.true_eq_false, false_implies, and_true, true_and]
      cases c1 : (wC ws i 0 == r) with
      | false =>
        simp only [true_implies, Bool.true_eq_false, Bool.false_eq_true, false_implies, and_true, true_and]
        exact mis (by unfold hitW; rw [c0, c1]; rfl)
      | true =>
        simp only [true_implies, Bool.true_eq_false, false_implies, and_true, true_and]
        cases c2 : (wC ws i 4 == a) with
        | false =>
          simp only [true_implies, Bool.true_eq_false, Bool.false_eq_true, false_implies, and_true, true_and]
          exact mis (by unfold hitW; rw [c0, c1, c2]; rfl)
        | true =>
          simp only [true_implies, Bool.true_eq_false, false_implies, and_true, true_and]
          have hh : hitW ws r a false i = true := by unfold hitW; rw [c0, c1, c2, Bool.not_false, Bool.or_true]; rfl
          have e := hit hh
          simp only [e, true_implies, Bool.true_eq_false, false_implies, and_true]
theorem rwrites_con (r a : Int) (m : SMem) : Con E0 22 [wsS ws, i64 (.o r), i64 (.o a)] m (needs [WsOk ws] (.ret (sB (.o (writesW ws r a))) m)) := by
  refine Con.pure E0_ok (by kernel_rfl : E0.fn 22 = some Try.f22) (by kernel_rfl : Try.f22.body = some (Try.f22.body.getD .skip)) (by kernel_rfl) (by kernel_rfl) fun hq => ?_
  have hw : WsOk ws := hq _ (by simp)
  refine (Good.ret [] (run_vc ED_ok 1000 (dw0_vc ws r a (fun i => i = ((0 : Nat) : Int))) ?_ (fun s m h => h.elim) fun fs m hm => dw0_go (fun i e => by rw [e]; exact dW_ok hw r a 32 0 (by omega) rfl) hm)).mono fun _ _ h => h.1
  simp only [and_true, true_and, dR_d0_ok, dW_d0_ok]
  repeat' first | exact rfl | exact trivial | apply And.intro
def getWC (ws : Array Value) (h : Int) : Array Value := if slotW (rbT ws) h < 0 then #[.int .i64 0, .int .i64 0, .int .i64 0, .bool false, .int .i64 0] else (fun i => #[.int .i64 (wC ws i 0), .int .i64 (wC ws i 1), .int .i64 (wC ws i 2), .bool (wM ws i), .int .i64 (wC ws i 4)]) (slotW (rbT ws) h).toNat
def getWE (ws : Array Value) (h : Int) : Int := if slotW (rbT ws) h < 0 then 4 else 0
theorem rget_con (h : Int) (m : SMem) : Con E0 37 [wsS ws, i64 (.o h)] m (needs [WsOk ws] (.ret (.tup [.agg (.op (getWC ws h)), .c (.f (.int .i64 (.o (getWE ws h))))]) m)) := by
  refine Con.pure E0_ok (by kernel_rfl : E0.fn 37 = some Try.f37) (by kernel_rfl : Try.f37.body = some (Try.f37.body.getD .skip)) (by kernel_rfl) (by kernel_rfl) fun hq => ?_
  have hw : WsOk ws := hq _ (by simp)
  refine (Good.ret [] (run_vc ED_ok 1000 (dg0 ws h (getWC ws h) (getWE ws h)) ?_ (fun s m h => h) fun _ _ h => h.elim)).mono fun _ _ h => h.1
  have hs := hw.sz
  have hb : RbOk (ws.extract 0 64) := hw.rb
  have hle : 64 ≤ ws.size := by omega
  have er : slotW (ws.extract 0 64) h = slotW (rbT ws) h := rfl
  rcases slotW_cases (rbT ws) h with e | ⟨j, e, hj, _⟩
  · have d : decide (slotW (ws.extract 0 64) h < 0) = true := decide_eq_true (by omega)
    have e1 : getWC ws h = #[.int .i64 0, .int .i64 0, .int .i64 0, .bool false, .int .i64 0] := by unfold getWC; rw [if_pos (by omega)]
    have e2 : getWE ws h = 4 := by unfold getWE; rw [if_pos (by omega)]
    simp only [d, e1, e2, true_implies, Bool.true_eq_false, false_implies, and_true, true_and]
    exact ⟨hle, hb⟩
  · have d : decide (slotW (ws.extract 0 64) h < 0) = false := decide_eq_false (by omega)
    have e1 : getWC ws h = #[.int .i64 (wC ws j 0), .int .i64 (wC ws j 1), .int .i64 (wC ws j 2), .bool (wM ws j), .int .i64 (wC ws j 4)] := by unfold getWC; rw [if_neg (by omega), e]; rfl
    have e2 : getWE ws h = 0 := by unfold getWE; rw [if_neg (by omega)]
    have ej : slotW (ws.extract 0 64) h = (j : Int) := e
    have c0 := hw.c0 j hj
    have c1 := hw.c1 j hj
    have c2 := hw.c2 j hj
    have c3 := hw.c3 j hj
    have c4 := hw.c4 j hj
    simp only [d, true_implies, Bool.true_eq_false, Bool.false_eq_true, false_implies, and_true, true_and]
    simp only [ej, e1, e2, Int.toNat_natCast, c0, c1, c2, c3, c4, and_true, true_and]
    exact ⟨hle, hb, ⟨by omega, by omega⟩, rfl⟩
structure CorrT (ts ws : Array Value) : Prop where
  b : SameB (bkT ts) (rbT ws)
  t : ∀ i, i < 16 → kindAt (bkT ts) i = 1 → wC ws i 0 = tR ts i ∧ wC ws i 1 = tB ts i ∧ wC ws i 2 = tT ts i ∧ wM ws i = tM ts i ∧ wC ws i 4 = tA ts i
theorem slot_t (h : TsOk ts) (hc : CorrT ts ws) (x : Int) : slotW (rbT ws) x = if goodB (bkT ts) x = true then (sl x : Int) else -1 := slot_rel h.bk hc.b x
theorem slot_ge (h : TsOk ts) (hc : CorrT ts ws) (x : Int) : decide (slotW (rbT ws) x ≥ 0) = goodB (bkT ts) x := by
  have := slot_t h hc x
  cases hg : goodB (bkT ts) x with
  | true => rw [hg, if_pos rfl] at this; exact decide_eq_true (by omega)
  | false => rw [hg, if_neg (by simp)] at this; exact decide_eq_false (by omega)
theorem free_t (h : TsOk ts) (hc : CorrT ts ws) (r a : Int) (all : Bool) : noneF (hitW ws r a all) 32 0 = freeB ts r a all := by
  rw [Bool.eq_iff_iff, noneF_iff, free_iff h]
  constructor
  · intro hn y hy h1 h2
    obtain ⟨_, _, s3, _, s5, _⟩ := good_slot h hy
    have := hn (sl y) (Nat.zero_le _) (by omega)
    obtain ⟨t0, _, _, t3, t4⟩ := hc.t _ s3 s5
    have e1 : (isW (rbT ws) (sl y) == 1) = true := by rw [(hc.b (sl y) (by omega)).2, s5]; rfl
    have e2 : (wC ws (sl y) 0 == r) = true := by rw [t0]; exact beq_iff_eq.2 h1
    have e3 : (wC ws (sl y) 4 == a) = true := by rw [t4]; exact beq_iff_eq.2 h2
    unfold hitW at this
    rw [e1, e2, e3, t3] at this
    exact this
  · intro hn i _ hi
    have hi : i < 32 := by omega
    cases hh : hitW ws r a all i with
    | false => rfl
    | true =>
      unfold hitW at hh
      simp only [Bool.and_eq_true, beq_iff_eq] at hh
      obtain ⟨e1, e2, e3, e4⟩ := hh
      rw [(hc.b i hi).2] at e1
      have h16 : i < 16 := by
        rcases Nat.lt_or_ge i 16 with c | c
        · exact c
        · have := h.hi i c hi; omega
      obtain ⟨t0, _, _, t3, t4⟩ := hc.t i h16 e1
      have es : sl (nameI i (ageAt (bkT ts) i)) = i := slotI_name hi (h.bk.ra i hi)
      have hg : gd ts (nameI i (ageAt (bkT ts) i)) := (goodB_iff h.bk).2 ⟨i, hi, e1, rfl⟩
      have := hn _ hg (by unfold rR; rw [es, ← t0]; exact e2) (by unfold rA; rw [es, ← t4]; exact e3)
      unfold rMu at this
      rw [es, ← t3, e4] at this
      cases this
theorem ok_t (h : TsOk ts) (hc : CorrT ts ws) (a : Int) : okW ws a = goodT ts a := by unfold okW goodT; rw [slot_ge h hc]
theorem reads_t (h : TsOk ts) (hc : CorrT ts ws) (r a : Int) : readsW ws r a = readsB ts r a := by unfold readsW readsB; rw [free_t h hc, ok_t h hc, Bool.and_comm]
theorem writes_t (h : TsOk ts) (hc : CorrT ts ws) (r a : Int) : writesW ws r a = writesB ts r a := by unfold writesW writesB; rw [free_t h hc, ok_t h hc, Bool.and_comm]
end
end Go.Proofs.Ytnjmockpdmchcaa
/- Of token: the document's Lend, Those, Clear, Return: states. No condition. -/
namespace Go.Proofs.Ytnjmockpdmchcaa
set_option linter.unusedVariables false
def i64s (l : List Int) : Array Value := (l.map (Value.int .i64)).toArray
noncomputable def rowI (l : List Int) (m : SMem) : Tree := .br (decide (l.length = 0)) (.ret (.s (.c (.f (.lit (.slice none 0 0))))) m) (.ret (.s (.c (.f (.slice m.next (.l 0) (.o l.length) (.full 1))))) (m.new (.pop (i64s l)) 3))
def zA35 : Array Value := #[.int .u32 0, .int .u8 0, .int .u32 0, .int .u8 0, .int .u32 0, .int .u8 0, .int .u32 0, .int .u8 0, .int .u32 0, .int .u8 0, .int .u32 0, .int .u8 0, .int .u32 0, .int .u8 0, .int .u32 0, .int .u8 0, .int .u32 0, .int .u8 0, .int .u32 0, .int .u8 0, .int .u32 0, .int .u8 0, .int .u32 0, .int .u8 0, .int .u32 0, .int .u8 0, .int .u32 0, .int .u8 0, .int .u32 0, .int .u8 0, .int .u32 0, .int .u8 0, .int .u32 0, .int .u8 0, .int .u32 0, .int .u8 0, .int .u32 0, .int .u8 0, .int .u32 0, .int .u8 0, .int .u32 0, .int .u8 0, .int .u32 0, .int .u8 0, .int .u32 0, .int .u8 0, .int .u32 0, .int .u8 0, .int .u32 0, .int .u8 0, .int .u32 0, .int .u8 0, .int .u32 0, .int .u8 0, .int .u32 0, .int .u8 0, .int .u32 0, .int .u8 0, .int .u32 0, .int .u8 0, .int .u32 0, .int .u8 0, .int .u32 0, .int .u8 0, .int .u32 0, .int .u8 0, .int .u8 0, .bool false, .int .u32 0, .int .u32 0, .int .u8 0, .int .u8 0, .bool false, .int .u32 0, .int .u32 0, .int .u8 0, .int .u8 0, .bool false, .int .u32 0, .int .u32 0, .int .u8 0, .int .u8 0, .bool false, .int .u32 0, .int .u32 0, .int .u8 0, .int .u8 0, .bool false, .int .u32 0, .int .u32 0, .int .u8 0, .int .u8 0, .bool false, .int .u32 0, .int .u32 0, .int .u8 0, .int .u8 0, .bool false, .int .u32 0, .int .u32 0, .int .u8 0, .int .u8 0, .bool false, .int .u32 0, .int .u32 0, .int .u8 0, .int .u8 0, .bool false, .int .u32 0, .int .u32 0, .int .u8 0, .int .u8 0, .bool false, .int .u32 0, .int .u32 0, .int .u8 0, .int .u8 0, .bool false, .int .u32 0, .int .u32 0, .int .u8 0, .int .u8 0, .bool false, .int .u32 0, .int .u32 0, .int .u8 0, .int .u8 0, .bool false, .int .u32 0, .int .u32 0, .int .u8 0, .int .u8 0, .bool false, .int .u32 0, .int .u32 0, .int .u8 0, .int .u8 0, .bool false, .int .u32 0, .int .u32 0, .int .u8 0, .int .u8 0, .bool false, .int .u32 0]
def zA43 : Array Value := #[.int .i64 0, .int .i64 0, .int .i64 0, .int .i64 0, .int .i64 0, .int .i64 0, .int .i64 0, .int .i64 0, .int .i64 0, .int .i64 0, .int .i64 0, .int .i64 0, .int .i64 0, .int .i64 0, .int .i64 0, .int .i64 0, .int .i64 0, .int .i64 0, .int .i64 0, .int .i64 0, .int .i64 0, .int .i64 0, .int .i64 0, .int .i64 0, .int .i64 0, .int .i64 0, .int .i64 0, .int .i64 0, .int .i64 0, .int .i64 0, .int .i64 0, .int .i64 0, .int .i64 0, .int .i64 0, .int .i64 0, .int .i64 0, .int .i64 0, .int .i64 0, .int .i64 0, .int .i64 0, .int .i64 0, .int .i64 0, .int .i64 0, .int .i64 0, .int .i64 0, .int .i64 0, .int .i64 0, .int .i64 0, .int .i64 0, .int .i64 0, .int .i64 0, .int .i64 0, .int .i64 0, .int .i64 0, .int .i64 0, .int .i64 0, .int .i64 0, .int .i64 0, .int .i64 0, .int .i64 0, .int .i64 0, .int .i64 0, .int .i64 0, .int .i64 0, .int .i64 0, .int .i64 0, .int .i64 0, .bool false, .int .i64 0, .int .i64 0, .int .i64 0, .int .i64 0, .bool false, .int .i64 0, .int .i64 0, .int .i64 0, .int .i64 0, .bool false, .int .i64 0, .int .i64 0, .int .i64 0, .int .i64 0, .bool false, .int .i64 0, .int .i64 0, .int .i64 0, .int .i64 0, .bool false, .int .i64 0, .int .i64 0, .int .i64 0, .int .i64 0, .bool false, .int .i64 0, .int .i64 0, .int .i64 0, .int .i64 0, .bool false, .int .i64 0, .int .i64 0, .int .i64 0, .int .i64 0, .bool false, .int .i64 0, .int .i64 0, .int .i64 0, .int .i64 0, .bool false, .int .i64 0, .int .i64 0, .int .i64 0, .int .i64 0, .bool false, .int .i64 0, .int .i64 0, .int .i64 0, .int .i64 0, .bool false, .int .i64 0, .int .i64 0, .int .i64 0, .int .i64 0, .bool false, .int .i64 0, .int .i64 0, .int .i64 0, .int .i64 0, .bool false, .int .i64 0, .int .i64 0, .int .i64 0, .int .i64 0, .bool false, .int .i64 0, .int .i64 0, .int .i64 0, .int .i64 0, .bool false, .int .i64 0, .int .i64 0, .int .i64 0, .int .i64 0, .bool false, .int .i64 0, .int .i64 0, .int .i64 0, .int .i64 0, .bool false, .int .i64 0, .int .i64 0, .int .i64 0, .int .i64 0, .bool false, .int .i64 0, .int .i64 0, .int .i64 0, .int .i64 0, .bool false, .int .i64 0, .int .i64 0, .int .i64 0, .int .i64 0, .bool false, .int .i64 0, .int .i64 0, .int .i64 0, .int .i64 0, .bool false, .int .i64 0, .int .i64 0, .int .i64 0, .int .i64 0, .bool false, .int .i64 0, .int .i64 0, .int .i64 0, .int .i64 0, .bool false, .int .i64 0, .int .i64 0, .int .i64 0, .int .i64 0, .bool false, .int .i64 0, .int .i64 0, .int .i64 0, .int .i64 0, .bool false, .int .i64 0, .int .i64 0, .int .i64 0, .int .i64 0, .bool false, .int .i64 0, .int .i64 0, .int .i64 0, .int .i64 0, .bool false, .int .i64 0, .int .i64 0, .int .i64 0, .int .i64 0, .bool false, .int .i64 0, .int .i64 0, .int .i64 0, .int .i64 0, .bool false, .int .i64 0, .int .i64 0, .int .i64 0, .int .i64 0, .bool false, .int .i64 0, .int .i64 0, .int .i64 0, .int .i64 0, .bool false, .int .i64 0, .int .i64 0, .int .i64 0, .int .i64 0, .bool false, .int .i64 0]
def thP (ws : Array Value) (r t : Int) (i : Nat) : Bool := (isW (rbT ws) i == 1) && ((decide (r < 0) || (wC ws i 0 == r)) && (decide (t < 0) || (wC ws i 2 == t)))
def thoseW (ws : Array Value) (r t : Int) : Nat → List Int
  | 0 => []
  | i + 1 => if thP ws r t i = true then thoseW ws r t i ++ [nameI i (genW (rbT ws) i)] else thoseW ws r t i
noncomputable def conD1 (g : FuncId) (l : List SV) (m : SMem) : Option Tree := match g, l with
  | 20, [.s (.agg (.op ws)), .s (.c (.f (.int .i64 r))), .s (.c (.f (.int .i64 a)))] => some (.need [WsOk ws] (.ret (sB (.o (readsW ws r.den a.den))) m))
  | 22, [.s (.agg (.op ws)), .s (.c (.f (.int .i64 r))), .s (.c (.f (.int .i64 a)))] => some (.need [WsOk ws] (.ret (sB (.o (writesW ws r.den a.den))) m))
  | 37, [.s (.agg (.op ws)), .s (.c (.f (.int .i64 h)))] => some (.need [WsOk ws] (.ret (.tup [.agg (.op (getWC ws h.den)), .c (.f (.int .i64 (.o (getWE ws h.den))))]) m))
  | 18, [.s (.agg (.op ws)), .s (.c (.f (.int .i64 r))), .s (.c (.f (.int .i64 t)))] => some (.need [WsOk ws] (rowI (thoseW ws r.den t.den 32) m))
  | g, l => conD0 g l m
noncomputable def EG : Env := ⟨Try.prog, fnOf, conD1, haltAt [11005]⟩
noncomputable def EGt : Env := ⟨Try.prog, fnOf, conD0, haltAt [18003]⟩
noncomputable def EGr : Env := ⟨Try.prog, fnOf, conD0, haltAt [8009, 8018]⟩
noncomputable def EGv : Env := ⟨Try.prog, fnOf, conD1, haltAt [13003, 13005, 13009, 13011]⟩
noncomputable def tkW (r b t : Int) (m : Bool) (a : Int) : SV := .s (.agg (.ls [.f (.int .i64 (.o r)), .f (.int .i64 (.o b)), .f (.int .i64 (.o t)), .f (.bool (.o m)), .f (.int .i64 (.o a))]))
noncomputable def hZ9_d0 : List SIt := sekF Try.f18 3
noncomputable def hZ9_F (ws : Array Value) (r : Int) (t : Int) (i : Int) : List SFr := [frOf 18 Try.f18 [(1, i64 (.o r)), (2, i64 (.o t)), (3, ptr 0 (.l 0)), (7, .s (.c (.f (.lit (.slice none 0 0))))), (8, i64 (.o i))] hZ9_d0]
noncomputable def hZ9_M (ws : Array Value) (r : Int) (t : Int) (i : Int) : SMem := mkM 1 [(0, ⟨.op ws, 43, true⟩)]
noncomputable def hZ9_n (ws : Array Value) (r : Int) (t : Int) (Q : Int → Prop) (fs : List SFr) (m : SMem) : Prop := (match frNth fs 0 with | some f0 => (match rdI f0 8 with | some i => (match rdP f0 3 with | some p0 => Q i ∧ subOk 0 [(0, p0)] (hZ9_F ws r t i) (hZ9_M ws r t i) fs m | none => False) | none => False) | none => False)
noncomputable def hS9_d0 : List SIt := sekF Try.f18 3
noncomputable def hS9_F (ws : Array Value) (r : Int) (t : Int) (i : Int) (k : Nat) (cs : Array Value) : List SFr := [frOf 18 Try.f18 [(1, i64 (.o r)), (2, i64 (.o t)), (3, ptr 0 (.l 0)), (7, .s (.c (.f (.slice 1 (.l 0) (.o k) (.full 1))))), (8, i64 (.o i))] hS9_d0]
noncomputable def hS9_M (ws : Array Value) (r : Int) (t : Int) (i : Int) (k : Nat) (cs : Array Value) : SMem := mkM 2 [(0, ⟨.op ws, 43, true⟩), (1, ⟨.pop cs, 3, true⟩)]
noncomputable def hS9_n (ws : Array Value) (r : Int) (t : Int) (Q : Int → Nat → Array Value → Prop) (fs : List SFr) (m : SMem) : Prop := (match frNth fs 0 with | some f0 => (match rdI f0 8 with | some i => (match rdP f0 3 with | some p0 => (match rdSI f0 7 with | some p1 => (match rdSN f0 7 with | some k => (match rdA m p1 with | some cs => Q i k cs ∧ subOk 0 [(0, p0), (1, p1)] (hS9_F ws r t i k cs) (hS9_M ws r t i k cs) fs m | none => False) | none => False) | none => False) | none => False) | none => False) | none => False)
noncomputable def freshI (k : Nat) (cs : Array Value) (s : SV) (m : SMem) : Prop := match s with | .s (.c (.f (.slice id (.l 0) (.o n) (.full 1)))) => (match getB m.bl id with | some ⟨.pop ds, ty, true⟩ => n = k ∧ ds = cs ∧ ty = 3 | _ => False) | _ => False
noncomputable def nilI9 (s : SV) (m : SMem) : Prop := match s with | .s (.c (.f (.lit (.slice none 0 0)))) => True | _ => False
noncomputable def hZS9 (ws : Array Value) (r t : Int) (QZ : Int → Prop) (QS : Int → Nat → Array Value → Prop) (fs : List SFr) (m : SMem) : Prop := match fs with | f :: _ => (match f.tm.get 7 with | some (.s (.c (.f (.slice _ _ _ _)))) => hS9_n ws r t QS fs m | _ => hZ9_n ws r t QZ fs m) | [] => False
noncomputable def th0_t (ws : Array Value) (r : Int) (t : Int) : Tree := run EGt 1000 0 [callFr 18 Try.f18.ntmps [wsS ws, i64 (.o r), i64 (.o t)] (Try.f18.body.getD .skip)] e0M
noncomputable def th0_x (ws : Array Value) (r : Int) (t : Int) (QhZ9 : Int → Prop) (fs : List SFr) (m : SMem) : Prop := hZ9_n ws r t QhZ9 fs m
noncomputable def gC_d0 : List SIt := sekF Try.f11 5
noncomputable def gC_F (ws0 : Array Value) (k : Nat) (rs : Array Value) (i : Int) (ws : Array Value) (zz : Array Value) : List SFr := [frOf 11 Try.f11 [(2, ptr 0 (.l 0)), (4, ptr 1 (.l 0)), (5, .s (.c (.f (.slice 2 (.l 0) (.o k) (.full 1))))), (6, i64 (.o i))] gC_d0]
noncomputable def gC_M (ws0 : Array Value) (k : Nat) (rs : Array Value) (i : Int) (ws : Array Value) (zz : Array Value) : SMem := mkM 3 [(0, ⟨.op ws, 43, true⟩), (1, ⟨.op zz, 43, true⟩), (2, ⟨.pop rs, 3, true⟩)]
noncomputable def gC_n (ws0 : Array Value) (k : Nat) (rs : Array Value) (Q : Int → Array Value → Array Value → Prop) (fs : List SFr) (m : SMem) : Prop := (match frNth fs 0 with | some f0 => (match rdI f0 6 with | some i => (match rdP f0 2 with | some p0 => (match rdP f0 4 with | some p1 => (match rdSI f0 5 with | some p2 => (match rdA m p0 with | some ws => (match rdA m p1 with | some zz => Q i ws zz ∧ subOk 0 [(0, p0), (1, p1), (2, p2)] (gC_F ws0 k rs i ws zz) (gC_M ws0 k rs i ws zz) fs m | none => False) | none => False) | none => False) | none => False) | none => False) | none => False) | none => False)
noncomputable def gCm (ws : Array Value) (r : Int) : Tree := run EG 1000 0 [callFr 11 Try.f11.ntmps [wsS ws, i64 (.o r)] (Try.f11.body.getD .skip)] e0M
noncomputable def tkA (r b t : Int) (m : Bool) (a : Int) : SA := .ls [.f (.int .i64 (.o r)), .f (.int .i64 (.o b)), .f (.int .i64 (.o t)), .f (.bool (.o m)), .f (.int .i64 (.o a))]
noncomputable def gV3_d0 : List SIt := sekF Try.f13 3
noncomputable def gV3_F (ws : Array Value) (r : Int) (b : Int) (t : Int) (mu : Bool) (a : Int) (zz : Array Value) : List SFr := [frOf 13 Try.f13 [(2, ptr 0 (.l 0)), (3, ptr 1 (.l 0)), (4, ptr 2 (.l 0))] gV3_d0]
noncomputable def gV3_M (ws : Array Value) (r : Int) (b : Int) (t : Int) (mu : Bool) (a : Int) (zz : Array Value) : SMem := mkM 3 [(0, ⟨.op ws, 43, true⟩), (1, ⟨tkA r b t mu a, 40, true⟩), (2, ⟨.op zz, 43, true⟩)]
noncomputable def gV3_n (ws : Array Value) (r : Int) (b : Int) (t : Int) (mu : Bool) (a : Int) (Q : Array Value → Prop) (fs : List SFr) (m : SMem) : Prop := (match frNth fs 0 with | some f0 => (match rdP f0 2 with | some p0 => (match rdP f0 3 with | some p1 => (match rdP f0 4 with | some p2 => (match rdA m p2 with | some zz => Q zz ∧ subOk 0 [(0, p0), (1, p1), (2, p2)] (gV3_F ws r b t mu a zz) (gV3_M ws r b t mu a zz) fs m | none => False) | none => False) | none => False) | none => False) | none => False)
noncomputable def gV5_d0 : List SIt := sekF Try.f13 5
noncomputable def gV5_F (ws : Array Value) (r : Int) (b : Int) (t : Int) (mu : Bool) (a : Int) (zz : Array Value) : List SFr := [frOf 13 Try.f13 [(2, ptr 0 (.l 0)), (3, ptr 1 (.l 0)), (4, ptr 2 (.l 0))] gV5_d0]
noncomputable def gV5_M (ws : Array Value) (r : Int) (b : Int) (t : Int) (mu : Bool) (a : Int) (zz : Array Value) : SMem := mkM 3 [(0, ⟨.op ws, 43, true⟩), (1, ⟨tkA r b t mu a, 40, true⟩), (2, ⟨.op zz, 43, true⟩)]
noncomputable def gV5_n (ws : Array Value) (r : Int) (b : Int) (t : Int) (mu : Bool) (a : Int) (Q : Array Value → Prop) (fs : List SFr) (m : SMem) : Prop := (match frNth fs 0 with | some f0 => (match rdP f0 2 with | some p0 => (match rdP f0 3 with | some p1 => (match rdP f0 4 with | some p2 => (match rdA m p2 with | some zz => Q zz ∧ subOk 0 [(0, p0), (1, p1), (2, p2)] (gV5_F ws r b t mu a zz) (gV5_M ws r b t mu a zz) fs m | none => False) | none => False) | none => False) | none => False) | none => False)
noncomputable def gV9_d0 : List SIt := sekF Try.f13 9
noncomputable def gV9_F (ws : Array Value) (r : Int) (b : Int) (t : Int) (mu : Bool) (a : Int) (zz : Array Value) : List SFr := [frOf 13 Try.f13 [(2, ptr 0 (.l 0)), (3, ptr 1 (.l 0)), (4, ptr 2 (.l 0))] gV9_d0]
noncomputable def gV9_M (ws : Array Value) (r : Int) (b : Int) (t : Int) (mu : Bool) (a : Int) (zz : Array Value) : SMem := mkM 3 [(0, ⟨.op ws, 43, true⟩), (1, ⟨tkA r b t mu a, 40, true⟩), (2, ⟨.op zz, 43, true⟩)]
noncomputable def gV9_n (ws : Array Value) (r : Int) (b : Int) (t : Int) (mu : Bool) (a : Int) (Q : Array Value → Prop) (fs : List SFr) (m : SMem) : Prop := (match frNth fs 0 with | some f0 => (match rdP f0 2 with | some p0 => (match rdP f0 3 with | some p1 => (match rdP f0 4 with | some p2 => (match rdA m p2 with | some zz => Q zz ∧ subOk 0 [(0, p0), (1, p1), (2, p2)] (gV9_F ws r b t mu a zz) (gV9_M ws r b t mu a zz) fs m | none => False) | none => False) | none => False) | none => False) | none => False)
noncomputable def gV11_d0 : List SIt := sekF Try.f13 11
noncomputable def gV11_F (ws : Array Value) (r : Int) (b : Int) (t : Int) (mu : Bool) (a : Int) (zz : Array Value) : List SFr := [frOf 13 Try.f13 [(2, ptr 0 (.l 0)), (3, ptr 1 (.l 0)), (4, ptr 2 (.l 0))] gV11_d0]
noncomputable def gV11_M (ws : Array Value) (r : Int) (b : Int) (t : Int) (mu : Bool) (a : Int) (zz : Array Value) : SMem := mkM 3 [(0, ⟨.op ws, 43, true⟩), (1, ⟨tkA r b t mu a, 40, true⟩), (2, ⟨.op zz, 43, true⟩)]
noncomputable def gV11_n (ws : Array Value) (r : Int) (b : Int) (t : Int) (mu : Bool) (a : Int) (Q : Array Value → Prop) (fs : List SFr) (m : SMem) : Prop := (match frNth fs 0 with | some f0 => (match rdP f0 2 with | some p0 => (match rdP f0 3 with | some p1 => (match rdP f0 4 with | some p2 => (match rdA m p2 with | some zz => Q zz ∧ subOk 0 [(0, p0), (1, p1), (2, p2)] (gV11_F ws r b t mu a zz) (gV11_M ws r b t mu a zz) fs m | none => False) | none => False) | none => False) | none => False) | none => False)
noncomputable def lnS (o : Array Value) (h e : Int) : SV := .tup [.agg (.op o), .c (.f (.int .i64 (.o h))), .c (.f (.int .i64 (.o e)))]
noncomputable def qA_d0 : List SIt := sekF Try.f8 9
noncomputable def qA_F (ws : Array Value) (mo : Bool) (i : Int) (gs : Array Value) (zz : Array Value) : List SFr := [frOf 8 Try.f8 [(2, ptr 0 (.l 0)), (4, ptr 1 (.l 0)), (7, ptr 2 (.l 0)), (8, sB (.o mo)), (9, i64 (.o i))] qA_d0]
noncomputable def qA_M (ws : Array Value) (mo : Bool) (i : Int) (gs : Array Value) (zz : Array Value) : SMem := mkM 3 [(0, ⟨.op ws, 43, true⟩), (1, ⟨.op zz, 43, true⟩), (2, ⟨.op gs, 80, true⟩)]
noncomputable def qA_n (ws : Array Value) (Q : Bool → Int → Array Value → Array Value → Prop) (fs : List SFr) (m : SMem) : Prop := (match frNth fs 0 with | some f0 => (match rdBo f0 8 with | some mo => (match rdI f0 9 with | some i => (match rdP f0 2 with | some p0 => (match rdP f0 4 with | some p1 => (match rdP f0 7 with | some p2 => (match rdA m p2 with | some gs => (match rdA m p1 with | some zz => Q mo i gs zz ∧ subOk 0 [(0, p0), (1, p1), (2, p2)] (qA_F ws mo i gs zz) (qA_M ws mo i gs zz) fs m | none => False) | none => False) | none => False) | none => False) | none => False) | none => False) | none => False) | none => False)
noncomputable def qZ_d0 : List SIt := sekF Try.f8 18
noncomputable def qZ_F (ws : Array Value) (gs : Array Value) (i : Int) (nw : Array Value) (zz : Array Value) : List SFr := [frOf 8 Try.f8 [(2, ptr 0 (.l 0)), (4, ptr 1 (.l 0)), (7, ptr 2 (.l 0)), (11, .s (.c (.f (.lit (.slice none 0 0))))), (12, ptr 3 (.l 0)), (13, i64 (.o i))] qZ_d0]
noncomputable def qZ_M (ws : Array Value) (gs : Array Value) (i : Int) (nw : Array Value) (zz : Array Value) : SMem := mkM 4 [(0, ⟨.op ws, 43, true⟩), (1, ⟨.op zz, 43, true⟩), (2, ⟨.op gs, 80, true⟩), (3, ⟨.op nw, 43, true⟩)]
noncomputable def qZ_n (ws : Array Value) (gs : Array Value) (Q : Int → Array Value → Array Value → Prop) (fs : List SFr) (m : SMem) : Prop := (match frNth fs 0 with | some f0 => (match rdI f0 13 with | some i => (match rdP f0 2 with | some p0 => (match rdP f0 4 with | some p1 => (match rdP f0 7 with | some p2 => (match rdP f0 12 with | some p3 => (match rdA m p3 with | some nw => (match rdA m p1 with | some zz => Q i nw zz ∧ subOk 0 [(0, p0), (1, p1), (2, p2), (3, p3)] (qZ_F ws gs i nw zz) (qZ_M ws gs i nw zz) fs m | none => False) | none => False) | none => False) | none => False) | none => False) | none => False) | none => False) | none => False)
noncomputable def qS_d0 : List SIt := sekF Try.f8 18
noncomputable def qS_F (ws : Array Value) (gs : Array Value) (i : Int) (nw : Array Value) (zz : Array Value) (k : Nat) (cs : Array Value) : List SFr := [frOf 8 Try.f8 [(2, ptr 0 (.l 0)), (4, ptr 1 (.l 0)), (7, ptr 2 (.l 0)), (11, .s (.c (.f (.slice 4 (.l 0) (.o k) (.full 1))))), (12, ptr 3 (.l 0)), (13, i64 (.o i))] qS_d0]
noncomputable def qS_M (ws : Array Value) (gs : Array Value) (i : Int) (nw : Array Value) (zz : Array Value) (k : Nat) (cs : Array Value) : SMem := mkM 5 [(0, ⟨.op ws, 43, true⟩), (1, ⟨.op zz, 43, true⟩), (2, ⟨.op gs, 80, true⟩), (3, ⟨.op nw, 43, true⟩), (4, ⟨.pop cs, 3, true⟩)]
noncomputable def qS_n (ws : Array Value) (gs : Array Value) (Q : Int → Array Value → Array Value → Nat → Array Value → Prop) (fs : List SFr) (m : SMem) : Prop := (match frNth fs 0 with | some f0 => (match rdI f0 13 with | some i => (match rdP f0 2 with | some p0 => (match rdP f0 4 with | some p1 => (match rdP f0 7 with | some p2 => (match rdP f0 12 with | some p3 => (match rdSI f0 11 with | some p4 => (match rdA m p3 with | some nw => (match rdA m p1 with | some zz => (match rdSN f0 11 with | some k => (match rdA m p4 with | some cs => Q i nw zz k cs ∧ subOk 0 [(0, p0), (1, p1), (2, p2), (3, p3), (4, p4)] (qS_F ws gs i nw zz k cs) (qS_M ws gs i nw zz k cs) fs m | none => False) | none => False) | none => False) | none => False) | none => False) | none => False) | none => False) | none => False) | none => False) | none => False) | none => False)
noncomputable def rOkW (o : Array Value) (k : Nat) (cs : Array Value) (s : SV) (m : SMem) : Prop := match s with | .tup [.agg (.op o'), .c (.f (.slice id (.l 0) (.o n) (.full 1))), .c (.f (.int .i64 e))] => (match getB m.bl id with | some ⟨.pop ds, ty, true⟩ => o' = o ∧ n = k ∧ ds = cs ∧ ty = 3 ∧ e.den = 0 | _ => False) | _ => False
noncomputable def qZS (ws gs : Array Value) (QZ : Int → Array Value → Array Value → Prop) (QS : Int → Array Value → Array Value → Nat → Array Value → Prop) (fs : List SFr) (m : SMem) : Prop := match fs with | f :: _ => (match f.tm.get 11 with | some (.s (.c (.f (.slice _ _ _ _)))) => qS_n ws gs QS fs m | _ => qZ_n ws gs QZ fs m) | [] => False
noncomputable def qa1_t (ws : Array Value) (mo : Bool) (i : Int) (gs : Array Value) (zz : Array Value) : Tree := stepT EGr.go (run EGr 1000) 0 (qA_F ws mo i gs zz) (qA_M ws mo i gs zz)
noncomputable def qa1_x (ws : Array Value) (mo : Bool) (i : Int) (gs : Array Value) (zz : Array Value) (QqA : Bool → Int → Array Value → Array Value → Prop) (QqZ : Int → Array Value → Array Value → Prop) (fs : List SFr) (m : SMem) : Prop := (match Nat.beq (atR fs) 8009 with | true => qA_n ws QqA fs m | false => qZ_n ws gs QqZ fs m)
theorem hZ9_d0_ok (r : Nat → Option Nat) : TodoOk r hZ9_d0 hZ9_d0 := TodoOk.it (by kernel_rfl)
theorem hS9_d0_ok (r : Nat → Option Nat) : TodoOk r hS9_d0 hS9_d0 := TodoOk.it (by kernel_rfl)
theorem gC_d0_ok (r : Nat → Option Nat) : TodoOk r gC_d0 gC_d0 := TodoOk.it (by kernel_rfl)
theorem gV3_d0_ok (r : Nat → Option Nat) : TodoOk r gV3_d0 gV3_d0 := TodoOk.it (by kernel_rfl)
theorem gV5_d0_ok (r : Nat → Option Nat) : TodoOk r gV5_d0 gV5_d0 := TodoOk.it (by kernel_rfl)
theorem gV9_d0_ok (r : Nat → Option Nat) : TodoOk r gV9_d0 gV9_d0 := TodoOk.it (by kernel_rfl)
theorem gV11_d0_ok (r : Nat → Option Nat) : TodoOk r gV11_d0 gV11_d0 := TodoOk.it (by kernel_rfl)
theorem qA_d0_ok (r : Nat → Option Nat) : TodoOk r qA_d0 qA_d0 := TodoOk.it (by kernel_rfl)
theorem qZ_d0_ok (r : Nat → Option Nat) : TodoOk r qZ_d0 qZ_d0 := TodoOk.it (by kernel_rfl)
theorem qS_d0_ok (r : Nat → Option Nat) : TodoOk r qS_d0 qS_d0 := TodoOk.it (by kernel_rfl)
theorem hZ9_good {A : SV → SMem → Prop} {ws : Array Value} {r : Int} {t : Int} {Q : Int → Prop} {fs : List SFr} {m : SMem} (H : ∀ i, Q i → Good Try.prog A 0 (hZ9_F ws r t i) (hZ9_M ws r t i)) (hb : hZ9_n ws r t Q fs m) : Good Try.prog A 0 fs m := by
  unfold hZ9_n at hb
  split at hb
  rotate_left
  · exact hb.elim
  split at hb
  rotate_left
  · exact hb.elim
  split at hb
  rotate_left
  · exact hb.elim
  exact Good.of_sub hb.2 (H _ hb.1)
theorem hS9_good {A : SV → SMem → Prop} {ws : Array Value} {r : Int} {t : Int} {Q : Int → Nat → Array Value → Prop} {fs : List SFr} {m : SMem} (H : ∀ i k cs, Q i k cs → Good Try.prog A 0 (hS9_F ws r t i k cs) (hS9_M ws r t i k cs)) (hb : hS9_n ws r t Q fs m) : Good Try.prog A 0 fs m := by
  unfold hS9_n at hb
  split at hb
  rotate_left
  · exact hb.elim
  split at hb
  rotate_left
  · exact hb.elim
  split at hb
  rotate_left
  · exact hb.elim
  split at hb
  rotate_left
  · exact hb.elim
  split at hb
  rotate_left
  · exact hb.elim
  split at hb
  rotate_left
  · exact hb.elim
  exact Good.of_sub hb.2 (H _ _ _ hb.1)
theorem th0_go {A : SV → SMem → Prop} {ws : Array Value} {r : Int} {t : Int} {QhZ9 : Int → Prop} {fs : List SFr} {m : SMem} (hhZ9 : ∀ i', QhZ9 i' → Good Try.prog A 0 (hZ9_F ws r t i') (hZ9_M ws r t i')) (hb : th0_x ws r t QhZ9 fs m) : Good Try.prog A 0 fs m := by
  unfold th0_x at hb
  exact hZ9_good hhZ9 hb
theorem gC_good {A : SV → SMem → Prop} {ws0 : Array Value} {k : Nat} {rs : Array Value} {Q : Int → Array Value → Array Value → Prop} {fs : List SFr} {m : SMem} (H : ∀ i ws zz, Q i ws zz → Good Try.prog A 0 (gC_F ws0 k rs i ws zz) (gC_M ws0 k rs i ws zz)) (hb : gC_n ws0 k rs Q fs m) : Good Try.prog A 0 fs m := by
  unfold gC_n at hb
  split at hb
  rotate_left
  · exact hb.elim
  split at hb
  rotate_left
  · exact hb.elim
  split at hb
  rotate_left
  · exact hb.elim
  split at hb
  rotate_left
  · exact hb.elim
  split at hb
  rotate_left
  · exact hb.elim
  split at hb
  rotate_left
  · exact hb.elim
  split at hb
  rotate_left
  · exact hb.elim
  exact Good.of_sub hb.2 (H _ _ _ hb.1)
theorem gV3_good {A : SV → SMem → Prop} {ws : Array Value} {r : Int} {b : Int} {t : Int} {mu : Bool} {a : Int} {Q : Array Value → Prop} {fs : List SFr} {m : SMem} (H : ∀ zz, Q zz → Good Try.prog A 0 (gV3_F ws r b t mu a zz) (gV3_M ws r b t mu a zz)) (hb : gV3_n ws r b t mu a Q fs m) : Good Try.prog A 0 fs m := by
  unfold gV3_n at hb
  split at hb
  rotate_left
  · exact hb.elim
  split at hb
  rotate_left
  · exact hb.elim
  split at hb
  rotate_left
  · exact hb.elim
  split at hb
  rotate_left
  · exact hb.elim
  split at hb
  rotate_left
  · exact hb.elim
  exact Good.of_sub hb.2 (H _ hb.1)
theorem gV5_good {A : SV → SMem → Prop} {ws : Array Value} {r : Int} {b : Int} {t : Int} {mu : Bool} {a : Int} {Q : Array Value → Prop} {fs : List SFr} {m : SMem} (H : ∀ zz, Q zz → Good Try.prog A 0 (gV5_F ws r b t mu a zz) (gV5_M ws r b t mu a zz)) (hb : gV5_n ws r b t mu a Q fs m) : Good Try.prog A 0 fs m := by
  unfold gV5_n at hb
  split at hb
  rotate_left
  · exact hb.elim
  split at hb
  rotate_left
  · exact hb.elim
  split at hb
  rotate_left
  · exact hb.elim
  split at hb
  rotate_left
  · exact hb.elim
  split at hb
  rotate_left
  · exact hb.elim
  exact Good.of_sub hb.2 (H _ hb.1)
theorem gV9_good {A : SV → SMem → Prop} {ws : Array Value} {r : Int} {b : Int} {t : Int} {mu : Bool} {a : Int} {Q : Array Value → Prop} {fs : List SFr} {m : SMem} (H : ∀ zz, Q zz → Good Try.prog A 0 (gV9_F ws r b t mu a zz) (gV9_M ws r b t mu a zz)) (hb : gV9_n ws r b t mu a Q fs m) : Good Try.prog A 0 fs m := by
  unfold gV9_n at hb
  split at hb
  rotate_left
  · exact hb.elim
  split at hb
  rotate_left
  · exact hb.elim
  split at hb
  rotate_left
  · exact hb.elim
  split at hb
  rotate_left
  · exact hb.elim
  split at hb
  rotate_left
  · exact hb.elim
  exact Good.of_sub hb.2 (H _ hb.1)
theorem gV11_good {A : SV → SMem → Prop} {ws : Array Value} {r : Int} {b : Int} {t : Int} {mu : Bool} {a : Int} {Q : Array Value → Prop} {fs : List SFr} {m : SMem} (H : ∀ zz, Q zz → Good Try.prog A 0 (gV11_F ws r b t mu a zz) (gV11_M ws r b t mu a zz)) (hb : gV11_n ws r b t mu a Q fs m) : Good Try.prog A 0 fs m := by
  unfold gV11_n at hb
  split at hb
  rotate_left
  · exact hb.elim
  split at hb
  rotate_left
  · exact hb.elim
  split at hb
  rotate_left
  · exact hb.elim
  split at hb
  rotate_left
  · exact hb.elim
  split at hb
  rotate_left
  · exact hb.elim
  exact Good.of_sub hb.2 (H _ hb.1)
theorem qA_good {A : SV → SMem → Prop} {ws : Array Value} {Q : Bool → Int → Array Value → Array Value → Prop} {fs : List SFr} {m : SMem} (H : ∀ mo i gs zz, Q mo i gs zz → Good Try.prog A 0 (qA_F ws mo i gs zz) (qA_M ws mo i gs zz)) (hb : qA_n ws Q fs m) : Good Try.prog A 0 fs m := by
  unfold qA_n at hb
  split at hb
  rotate_left
  · exact hb.elim
  split at hb
  rotate_left
  · exact hb.elim
  split at hb
  rotate_left
  · exact hb.elim
  split at hb
  rotate_left
  · exact hb.elim
  split at hb
  rotate_left
  · exact hb.elim
  split at hb
  rotate_left
  · exact hb.elim
  split at hb
  rotate_left
  · exact hb.elim
  split at hb
  rotate_left
  · exact hb.elim
  exact Good.of_sub hb.2 (H _ _ _ _ hb.1)
theorem qZ_good {A : SV → SMem → Prop} {ws : Array Value} {gs : Array Value} {Q : Int → Array Value → Array Value → Prop} {fs : List SFr} {m : SMem} (H : ∀ i nw zz, Q i nw zz → Good Try.prog A 0 (qZ_F ws gs i nw zz) (qZ_M ws gs i nw zz)) (hb : qZ_n ws gs Q fs m) : Good Try.prog A 0 fs m := by
  unfold qZ_n at hb
  split at hb
  rotate_left
  · exact hb.elim
  split at hb
  rotate_left
  · exact hb.elim
  split at hb
  rotate_left
  · exact hb.elim
  split at hb
  rotate_left
  · exact hb.elim
  split at hb
  rotate_left
  · exact hb.elim
  split at hb
  rotate_left
  · exact hb.elim
  split at hb
  rotate_left
  · exact hb.elim
  split at hb
  rotate_left
  · exact hb.elim
  exact Good.of_sub hb.2 (H _ _ _ hb.1)
theorem qS_good {A : SV → SMem → Prop} {ws : Array Value} {gs : Array Value} {Q : Int → Array Value → Array Value → Nat → Array Value → Prop} {fs : List SFr} {m : SMem} (H : ∀ i nw zz k cs, Q i nw zz k cs → Good Try.prog A 0 (qS_F ws gs i nw zz k cs) (qS_M ws gs i nw zz k cs)) (hb : qS_n ws gs Q fs m) : Good Try.prog A 0 fs m := by
  unfold qS_n at hb
  split at hb
  rotate_left
  · exact hb.elim
  split at hb
  rotate_left
  · exact hb.elim
  split at hb
  rotate_left
  · exact hb.elim
  split at hb
  rotate_left
  · exact hb.elim
  split at hb
  rotate_left
  · exact hb.elim
  split at hb
  rotate_left
  · exact hb.elim
  split at hb
  rotate_left
  · exact hb.elim
  split at hb
  rotate_left
  · exact hb.elim
  split at hb
  rotate_left
  · exact hb.elim
  split at hb
  rotate_left
  · exact hb.elim
  split at hb
  rotate_left
  · exact hb.elim
  exact Good.of_sub hb.2 (H _ _ _ _ _ hb.1)
theorem qa1_go {A : SV → SMem → Prop} {ws : Array Value} {mo : Bool} {i : Int} {gs : Array Value} {zz : Array Value} {QqA : Bool → Int → Array Value → Array Value → Prop} {QqZ : Int → Array Value → Array Value → Prop} {fs : List SFr} {m : SMem} (hqA : ∀ mo' i' gs' zz', QqA mo' i' gs' zz' → Good Try.prog A 0 (qA_F ws mo' i' gs' zz') (qA_M ws mo' i' gs' zz')) (hqZ : ∀ i' nw' zz', QqZ i' nw' zz' → Good Try.prog A 0 (qZ_F ws gs i' nw' zz') (qZ_M ws gs i' nw' zz')) (hb : qa1_x ws mo i gs zz QqA QqZ fs m) : Good Try.prog A 0 fs m := by
  unfold qa1_x at hb
  split at hb
  · exact qA_good hqA hb
  exact qZ_good hqZ hb
end Go.Proofs.Ytnjmockpdmchcaa
/- Of token: the document's Lend, Those, Clear, Return: states. -/
namespace Go.Proofs.Ytnjmockpdmchcaa
set_option maxRecDepth 100000
theorem th0_vc (ws : Array Value) (r : Int) (t : Int) (QhZ9 : Int → Prop) : (th0_t ws r t).vc ((fun _ _ => False)) (th0_x ws r t QhZ9) =
    (QhZ9 (0 : Int) ∧ CallKind.normal = CallKind.normal ∧ TodoOk (ren 0 [(0, 0)]) hZ9_d0 hZ9_d0 ∧ r = r ∧ Value.slice none (0 : Nat) (0 : Nat) = Value.slice none (0 : Nat) (0 : Nat) ∧ t = t ∧ (0 : Int) = (0 : Int) ∧ (43 : TypeId) = (43 : Nat) ∧ ws = ws ∧ True) := by kernel_rfl
theorem qa1_vc (ws : Array Value) (mo : Bool) (i : Int) (gs : Array Value) (zz : Array Value) (QqA : Bool → Int → Array Value → Array Value → Prop) (QqZ : Int → Array Value → Array Value → Prop) : (qa1_t ws mo i gs zz).vc ((fun _ _ => False)) (qa1_x ws mo i gs zz QqA QqZ) =
    ((decide (i < (32 : Int)) = true → ((64 : Nat) ≤ Array.size ws ∧ True) ∧ (((0 : Int) ≤ i ∧ i < (32 : Int)) ∧ True) ∧ (IsInt IntKind.i64 ws ((64 : Nat) + Int.toNat i * 5 + 4) ∧ True) ∧ (RbOk (Array.extract ws (0 : Nat) (64 : Nat)) ∧ True) ∧ (((0 : Int) ≤ i ∧ i < (32 : Int)) ∧ True) ∧ (IsInt IntKind.i64 ws ((32 : Nat) + Int.toNat i * 1) ∧ True) ∧ (((intAt ws ((32 : Nat) + Int.toNat i * 1) == (1 : Int)) == true) = true → (((0 : Int) ≤ i ∧ i < (32 : Int)) ∧ True) ∧ (IsBool gs ((0 : Nat) + Int.toNat i * 1) ∧ True) ∧ (((!boolAt gs ((0 : Nat) + Int.toNat i * 1)) == true) = true → ((decide (slotW (Array.extract ws (0 : Nat) (64 : Nat)) (intAt ws ((64 : Nat) + Int.toNat i * 5 + 4)) ≥ (0 : Int)) == true) = true → (((0 : Int) ≤ slotW (Array.extract ws (0 : Nat) (64 : Nat)) (intAt ws ((64 : Nat) + Int.toNat i * 5 + 4)) ∧ slotW (Array.extract ws (0 : Nat) (64 : Nat)) (intAt ws ((64 : Nat) + Int.toNat i * 5 + 4)) < (32 : Int)) ∧ True) ∧ (IsBool gs ((0 : Nat) + Int.toNat (slotW (Array.extract ws (0 : Nat) (64 : Nat)) (intAt ws ((64 : Nat) + Int.toNat i * 5 + 4))) * 1) ∧ True) ∧ (boolAt gs ((0 : Nat) + Int.toNat (slotW (Array.extract ws (0 : Nat) (64 : Nat)) (intAt ws ((64 : Nat) + Int.toNat i * 5 + 4))) * 1) = true → (((0 : Int) ≤ i ∧ i < (32 : Int)) ∧ True) ∧ ((0 : Nat) + Int.toNat i * 1 < Array.size gs ∧ True) ∧ QqA true (ari BinOp.add IntKind.i64 i (1 : Int)) (Array.setIfInBounds gs ((0 : Nat) + Int.toNat i * 1) (Value.bool true)) zz ∧ CallKind.normal = CallKind.normal ∧ TodoOk (ren 0 [(0, 0), (1, 1), (2, 2)]) qA_d0 qA_d0 ∧ ari BinOp.add IntKind.i64 i (1 : Int) = ari BinOp.add IntKind.i64 i (1 : Int) ∧ true = true ∧ (43 : TypeId) = (43 : TypeId) ∧ ws = ws ∧ (43 : TypeId) = (43 : TypeId) ∧ zz = zz ∧ (80 : TypeId) = (80 : TypeId) ∧ Array.setIfInBounds gs ((0 : Nat) + Int.toNat i * 1) (Value.bool true) = Array.setIfInBounds gs ((0 : Nat) + Int.toNat i * 1) (Value.bool true) ∧ True) ∧ (boolAt gs ((0 : Nat) + Int.toNat (slotW (Array.extract ws (0 : Nat) (64 : Nat)) (intAt ws ((64 : Nat) + Int.toNat i * 5 + 4))) * 1) = false → QqA mo (ari BinOp.add IntKind.i64 i (1 : Int)) gs zz ∧ CallKind.normal = CallKind.normal ∧ TodoOk (ren 0 [(0, 0), (1, 1), (2, 2)]) qA_d0 qA_d0 ∧ ari BinOp.add IntKind.i64 i (1 : Int) = ari BinOp.add IntKind.i64 i (1 : Int) ∧ mo = mo ∧ (43 : TypeId) = (43 : TypeId) ∧ ws = ws ∧ (43 : TypeId) = (43 : TypeId) ∧ zz = zz ∧ (80 : TypeId) = (80 : TypeId) ∧ gs = gs ∧ True)) ∧ ((decide (slotW (Array.extract ws (0 : Nat) (64 : Nat)) (intAt ws ((64 : Nat) + Int.toNat i * 5 + 4)) ≥ (0 : Int)) == true) = false → QqA mo (ari BinOp.add IntKind.i64 i (1 : Int)) gs zz ∧ CallKind.normal = CallKind.normal ∧ TodoOk (ren 0 [(0, 0), (1, 1), (2, 2)]) qA_d0 qA_d0 ∧ ari BinOp.add IntKind.i64 i (1 : Int) = ari BinOp.add IntKind.i64 i (1 : Int) ∧ mo = mo ∧ (43 : TypeId) = (43 : TypeId) ∧ ws = ws ∧ (43 : TypeId) = (43 : TypeId) ∧ zz = zz ∧ (80 : TypeId) = (80 : TypeId) ∧ gs = gs ∧ True)) ∧ (((!boolAt gs ((0 : Nat) + Int.toNat i * 1)) == true) = false → QqA mo (ari BinOp.add IntKind.i64 i (1 : Int)) gs zz ∧ CallKind.normal = CallKind.normal ∧ TodoOk (ren 0 [(0, 0), (1, 1), (2, 2)]) qA_d0 qA_d0 ∧ ari BinOp.add IntKind.i64 i (1 : Int) = ari BinOp.add IntKind.i64 i (1 : Int) ∧ mo = mo ∧ (43 : TypeId) = (43 : TypeId) ∧ ws = ws ∧ (43 : TypeId) = (43 : TypeId) ∧ zz = zz ∧ (80 : TypeId) = (80 : TypeId) ∧ gs = gs ∧ True)) ∧ (((intAt ws ((32 : Nat) + Int.toNat i * 1) == (1 : Int)) == true) = false → QqA mo (ari BinOp.add IntKind.i64 i (1 : Int)) gs zz ∧ CallKind.normal = CallKind.normal ∧ TodoOk (ren 0 [(0, 0), (1, 1), (2, 2)]) qA_d0 qA_d0 ∧ ari BinOp.add IntKind.i64 i (1 : Int) = ari BinOp.add IntKind.i64 i (1 : Int) ∧ mo = mo ∧ (43 : TypeId) = (43 : TypeId) ∧ ws = ws ∧ (43 : TypeId) = (43 : TypeId) ∧ zz = zz ∧ (80 : TypeId) = (80 : TypeId) ∧ gs = gs ∧ True)) ∧ (decide (i < (32 : Int)) = false → (mo = true → QqA false (0 : Int) gs zz ∧ CallKind.normal = CallKind.normal ∧ TodoOk (ren 0 [(0, 0), (1, 1), (2, 2)]) qA_d0 qA_d0 ∧ (0 : Int) = (0 : Int) ∧ false = false ∧ (43 : TypeId) = (43 : TypeId) ∧ ws = ws ∧ (43 : TypeId) = (43 : TypeId) ∧ zz = zz ∧ (80 : TypeId) = (80 : TypeId) ∧ gs = gs ∧ True) ∧ (mo = false → (Array.size ws = (224 : Nat) ∧ True) ∧ (Array.size ws = (224 : Nat) ∧ Array.size ws = (224 : Nat) ∧ True) ∧ QqZ (0 : Int) ws zz ∧ CallKind.normal = CallKind.normal ∧ TodoOk (ren 0 [(0, 0), (1, 1), (2, 2), (3, 3)]) qZ_d0 qZ_d0 ∧ Value.slice none (0 : Nat) (0 : Nat) = Value.slice none (0 : Nat) (0 : Nat) ∧ (0 : Int) = (0 : Int) ∧ (43 : TypeId) = (43 : TypeId) ∧ ws = ws ∧ (43 : TypeId) = (43 : TypeId) ∧ zz = zz ∧ (43 : TypeId) = (43 : Nat) ∧ ws = ws ∧ (80 : TypeId) = (80 : TypeId) ∧ gs = gs ∧ True))) := by kernel_rfl
theorem th1 (ws : Array Value) (r t : Int) (i : Int) (QZ : Int → Prop) (QS : Int → Nat → Array Value → Prop) : (stepT EGt.go (run EGt 1000) 0 (hZ9_F ws r t i) (hZ9_M ws r t i)).vc (nilI9) (hZS9 ws r t QZ QS) =
    ((decide (i < (32 : Int)) = true → (((0 : Int) ≤ i ∧ i < (32 : Int)) ∧ True) ∧ (IsInt IntKind.i64 ws ((32 : Nat) + Int.toNat i * 1) ∧ True) ∧ (((intAt ws ((32 : Nat) + Int.toNat i * 1) == (1 : Int)) == true) = true → ((decide (r < (0 : Int)) == false) = true → (((0 : Int) ≤ i ∧ i < (32 : Int)) ∧ True) ∧ (IsInt IntKind.i64 ws ((64 : Nat) + Int.toNat i * 5) ∧ True) ∧ (((intAt ws ((64 : Nat) + Int.toNat i * 5) == r) == true) = true → ((decide (t < (0 : Int)) == false) = true → (((0 : Int) ≤ i ∧ i < (32 : Int)) ∧ True) ∧ (IsInt IntKind.i64 ws ((64 : Nat) + Int.toNat i * 5 + 2) ∧ True) ∧ ((intAt ws ((64 : Nat) + Int.toNat i * 5 + 2) == t) = true → ((64 : Nat) ≤ Array.size ws ∧ True) ∧ (((0 : Int) ≤ i ∧ i < (32 : Int)) ∧ True) ∧ (IsInt IntKind.i64 (Array.extract ws (0 : Nat) (64 : Nat)) ((0 : Nat) + Int.toNat i * 1) ∧ True) ∧ QS (ari BinOp.add IntKind.i64 i (1 : Int)) (1 : Nat) #[Value.int IntKind.i64 (ari BinOp.add IntKind.i64 (ari BinOp.add IntKind.i64 i (ari BinOp.mul IntKind.i64 (256 : Int) (intAt (Array.extract ws (0 : Nat) (64 : Nat)) ((0 : Nat) + Int.toNat i * 1)))) (1 : Int))] ∧ CallKind.normal = CallKind.normal ∧ TodoOk (ren 0 [(0, 0), (1, 3)]) hZ9_d0 hZ9_d0 ∧ r = r ∧ (1 : Nat) = (1 : Nat) ∧ t = t ∧ ari BinOp.add IntKind.i64 i (1 : Int) = ari BinOp.add IntKind.i64 i (1 : Int) ∧ (43 : TypeId) = (43 : TypeId) ∧ ws = ws ∧ (3 : TypeId) = (3 : Nat) ∧ #[Value.int IntKind.i64 (ari BinOp.add IntKind.i64 (ari BinOp.add IntKind.i64 i (ari BinOp.mul IntKind.i64 (256 : Int) (intAt (Array.extract ws (0 : Nat) (64 : Nat)) ((0 : Nat) + Int.toNat i * 1)))) (1 : Int))] = #[Value.int IntKind.i64 (ari BinOp.add IntKind.i64 (ari BinOp.add IntKind.i64 i (ari BinOp.mul IntKind.i64 (256 : Int) (intAt (Array.extract ws (0 : Nat) (64 : Nat)) ((0 : Nat) + Int.toNat i * 1)))) (1 : Int))] ∧ True) ∧ ((intAt ws ((64 : Nat) + Int.toNat i * 5 + 2) == t) = false → QZ (ari BinOp.add IntKind.i64 i (1 : Int)) ∧ CallKind.normal = CallKind.normal ∧ TodoOk (ren 0 [(0, 0)]) hZ9_d0 hZ9_d0 ∧ r = r ∧ Value.slice none (0 : Nat) (0 : Nat) = Value.slice none (0 : Nat) (0 : Nat) ∧ t = t ∧ ari BinOp.add IntKind.i64 i (1 : Int) = ari BinOp.add IntKind.i64 i (1 : Int) ∧ (43 : TypeId) = (43 : TypeId) ∧ ws = ws ∧ True)) ∧ ((decide (t < (0 : Int)) == false) = false → ((64 : Nat) ≤ Array.size ws ∧ True) ∧ (((0 : Int) ≤ i ∧ i < (32 : Int)) ∧ True) ∧ (IsInt IntKind.i64 (Array.extract ws (0 : Nat) (64 : Nat)) ((0 : Nat) + Int.toNat i * 1) ∧ True) ∧ QS (ari BinOp.add IntKind.i64 i (1 : Int)) (1 : Nat) #[Value.int IntKind.i64 (ari BinOp.add IntKind.i64 (ari BinOp.add IntKind.i64 i (ari BinOp.mul IntKind.i64 (256 : Int) (intAt (Array.extract ws (0 : Nat) (64 : Nat)) ((0 : Nat) + Int.toNat i * 1)))) (1 : Int))] ∧ CallKind.normal = CallKind.normal ∧ TodoOk (ren 0 [(0, 0), (1, 3)]) hZ9_d0 hZ9_d0 ∧ r = r ∧ (1 : Nat) = (1 : Nat) ∧ t = t ∧ ari BinOp.add IntKind.i64 i (1 : Int) = ari BinOp.add IntKind.i64 i (1 : Int) ∧ (43 : TypeId) = (43 : TypeId) ∧ ws = ws ∧ (3 : TypeId) = (3 : Nat) ∧ #[Value.int IntKind.i64 (ari BinOp.add IntKind.i64 (ari BinOp.add IntKind.i64 i (ari BinOp.mul IntKind.i64 (256 : Int) (intAt (Array.extract ws (0 : Nat) (64 : Nat)) ((0 : Nat) + Int.toNat i * 1)))) (1 : Int))] = #[Value.int IntKind.i64 (ari BinOp.add IntKind.i64 (ari BinOp.add IntKind.i64 i (ari BinOp.mul IntKind.i64 (256 : Int) (intAt (Array.extract ws (0 : Nat) (64 : Nat)) ((0 : Nat) + Int.toNat i * 1)))) (1 : Int))] ∧ True)) ∧ (((intAt ws ((64 : Nat) + Int.toNat i * 5) == r) == true) = false → QZ (ari BinOp.add IntKind.i64 i (1 : Int)) ∧ CallKind.normal = CallKind.normal ∧ TodoOk (ren 0 [(0, 0)]) hZ9_d0 hZ9_d0 ∧ r = r ∧ Value.slice none (0 : Nat) (0 : Nat) = Value.slice none (0 : Nat) (0 : Nat) ∧ t = t ∧ ari BinOp.add IntKind.i64 i (1 : Int) = ari BinOp.add IntKind.i64 i (1 : Int) ∧ (43 : TypeId) = (43 : TypeId) ∧ ws = ws ∧ True)) ∧ ((decide (r < (0 : Int)) == false) = false → ((decide (t < (0 : Int)) == false) = true → (((0 : Int) ≤ i ∧ i < (32 : Int)) ∧ True) ∧ (IsInt IntKind.i64 ws ((64 : Nat) + Int.toNat i * 5 + 2) ∧ True) ∧ ((intAt ws ((64 : Nat) + Int.toNat i * 5 + 2) == t) = true → ((64 : Nat) ≤ Array.size ws ∧ True) ∧ (((0 : Int) ≤ i ∧ i < (32 : Int)) ∧ True) ∧ (IsInt IntKind.i64 (Array.extract ws (0 : Nat) (64 : Nat)) ((0 : Nat) + Int.toNat i * 1) ∧ True) ∧ QS (ari BinOp.add IntKind.i64 i (1 : Int)) (1 : Nat) #[Value.int IntKind.i64 (ari BinOp.add IntKind.i64 (ari BinOp.add IntKind.i64 i (ari BinOp.mul IntKind.i64 (256 : Int) (intAt (Array.extract ws (0 : Nat) (64 : Nat)) ((0 : Nat) + Int.toNat i * 1)))) (1 : Int))] ∧ CallKind.normal = CallKind.normal ∧ TodoOk (ren 0 [(0, 0), (1, 3)]) hZ9_d0 hZ9_d0 ∧ r = r ∧ (1 : Nat) = (1 : Nat) ∧ t = t ∧ ari BinOp.add IntKind.i64 i (1 : Int) = ari BinOp.add IntKind.i64 i (1 : Int) ∧ (43 : TypeId) = (43 : TypeId) ∧ ws = ws ∧ (3 : TypeId) = (3 : Nat) ∧ #[Value.int IntKind.i64 (ari BinOp.add IntKind.i64 (ari BinOp.add IntKind.i64 i (ari BinOp.mul IntKind.i64 (256 : Int) (intAt (Array.extract ws (0 : Nat) (64 : Nat)) ((0 : Nat) + Int.toNat i * 1)))) (1 : Int))] = #[Value.int IntKind.i64 (ari BinOp.add IntKind.i64 (ari BinOp.add IntKind.i64 i (ari BinOp.mul IntKind.i64 (256 : Int) (intAt (Array.extract ws (0 : Nat) (64 : Nat)) ((0 : Nat) + Int.toNat i * 1)))) (1 : Int))] ∧ True) ∧ ((intAt ws ((64 : Nat) + Int.toNat i * 5 + 2) == t) = false → QZ (ari BinOp.add IntKind.i64 i (1 : Int)) ∧ CallKind.normal = CallKind.normal ∧ TodoOk (ren 0 [(0, 0)]) hZ9_d0 hZ9_d0 ∧ r = r ∧ Value.slice none (0 : Nat) (0 : Nat) = Value.slice none (0 : Nat) (0 : Nat) ∧ t = t ∧ ari BinOp.add IntKind.i64 i (1 : Int) = ari BinOp.add IntKind.i64 i (1 : Int) ∧ (43 : TypeId) = (43 : TypeId) ∧ ws = ws ∧ True)) ∧ ((decide (t < (0 : Int)) == false) = false → ((64 : Nat) ≤ Array.size ws ∧ True) ∧ (((0 : Int) ≤ i ∧ i < (32 : Int)) ∧ True) ∧ (IsInt IntKind.i64 (Array.extract ws (0 : Nat) (64 : Nat)) ((0 : Nat) + Int.toNat i * 1) ∧ True) ∧ QS (ari BinOp.add IntKind.i64 i (1 : Int)) (1 : Nat) #[Value.int IntKind.i64 (ari BinOp.add IntKind.i64 (ari BinOp.add IntKind.i64 i (ari BinOp.mul IntKind.i64 (256 : Int) (intAt (Array.extract ws (0 : Nat) (64 : Nat)) ((0 : Nat) + Int.toNat i * 1)))) (1 : Int))] ∧ CallKind.normal = CallKind.normal ∧ TodoOk (ren 0 [(0, 0), (1, 3)]) hZ9_d0 hZ9_d0 ∧ r = r ∧ (1 : Nat) = (1 : Nat) ∧ t = t ∧ ari BinOp.add IntKind.i64 i (1 : Int) = ari BinOp.add IntKind.i64 i (1 : Int) ∧ (43 : TypeId) = (43 : TypeId) ∧ ws = ws ∧ (3 : TypeId) = (3 : Nat) ∧ #[Value.int IntKind.i64 (ari BinOp.add IntKind.i64 (ari BinOp.add IntKind.i64 i (ari BinOp.mul IntKind.i64 (256 : Int) (intAt (Array.extract ws (0 : Nat) (64 : Nat)) ((0 : Nat) + Int.toNat i * 1)))) (1 : Int))] = #[Value.int IntKind.i64 (ari BinOp.add IntKind.i64 (ari BinOp.add IntKind.i64 i (ari BinOp.mul IntKind.i64 (256 : Int) (intAt (Array.extract ws (0 : Nat) (64 : Nat)) ((0 : Nat) + Int.toNat i * 1)))) (1 : Int))] ∧ True))) ∧ (((intAt ws ((32 : Nat) + Int.toNat i * 1) == (1 : Int)) == true) = false → QZ (ari BinOp.add IntKind.i64 i (1 : Int)) ∧ CallKind.normal = CallKind.normal ∧ TodoOk (ren 0 [(0, 0)]) hZ9_d0 hZ9_d0 ∧ r = r ∧ Value.slice none (0 : Nat) (0 : Nat) = Value.slice none (0 : Nat) (0 : Nat) ∧ t = t ∧ ari BinOp.add IntKind.i64 i (1 : Int) = ari BinOp.add IntKind.i64 i (1 : Int) ∧ (43 : TypeId) = (43 : TypeId) ∧ ws = ws ∧ True)) ∧ (decide (i < (32 : Int)) = false → True)) := by kernel_rfl
theorem th2 (ws : Array Value) (r t : Int) (i : Int) (kF : Nat) (csF : Array Value) (QZ : Int → Prop) (QS : Int → Nat → Array Value → Prop) : (stepT EGt.go (run EGt 1000) 0 (hZ9_F ws r t i) (hZ9_M ws r t i)).vc (freshA kF csF 3) (hZS9 ws r t QZ QS) =
    ((decide (i < (32 : Int)) = true → (((0 : Int) ≤ i ∧ i < (32 : Int)) ∧ True) ∧ (IsInt IntKind.i64 ws ((32 : Nat) + Int.toNat i * 1) ∧ True) ∧ (((intAt ws ((32 : Nat) + Int.toNat i * 1) == (1 : Int)) == true) = true → ((decide (r < (0 : Int)) == false) = true → (((0 : Int) ≤ i ∧ i < (32 : Int)) ∧ True) ∧ (IsInt IntKind.i64 ws ((64 : Nat) + Int.toNat i * 5) ∧ True) ∧ (((intAt ws ((64 : Nat) + Int.toNat i * 5) == r) == true) = true → ((decide (t < (0 : Int)) == false) = true → (((0 : Int) ≤ i ∧ i < (32 : Int)) ∧ True) ∧ (IsInt IntKind.i64 ws ((64 : Nat) + Int.toNat i * 5 + 2) ∧ True) ∧ ((intAt ws ((64 : Nat) + Int.toNat i * 5 + 2) == t) = true → ((64 : Nat) ≤ Array.size ws ∧ True) ∧ (((0 : Int) ≤ i ∧ i < (32 : Int)) ∧ True) ∧ (IsInt IntKind.i64 (Array.extract ws (0 : Nat) (64 : Nat)) ((0 : Nat) + Int.toNat i * 1) ∧ True) ∧ QS (ari BinOp.add IntKind.i64 i (1 : Int)) (1 : Nat) #[Value.int IntKind.i64 (ari BinOp.add IntKind.i64 (ari BinOp.add IntKind.i64 i (ari BinOp.mul IntKind.i64 (256 : Int) (intAt (Array.extract ws (0 : Nat) (64 : Nat)) ((0 : Nat) + Int.toNat i * 1)))) (1 : Int))] ∧ CallKind.normal = CallKind.normal ∧ TodoOk (ren 0 [(0, 0), (1, 3)]) hZ9_d0 hZ9_d0 ∧ r = r ∧ (1 : Nat) = (1 : Nat) ∧ t = t ∧ ari BinOp.add IntKind.i64 i (1 : Int) = ari BinOp.add IntKind.i64 i (1 : Int) ∧ (43 : TypeId) = (43 : TypeId) ∧ ws = ws ∧ (3 : TypeId) = (3 : Nat) ∧ #[Value.int IntKind.i64 (ari BinOp.add IntKind.i64 (ari BinOp.add IntKind.i64 i (ari BinOp.mul IntKind.i64 (256 : Int) (intAt (Array.extract ws (0 : Nat) (64 : Nat)) ((0 : Nat) + Int.toNat i * 1)))) (1 : Int))] = #[Value.int IntKind.i64 (ari BinOp.add IntKind.i64 (ari BinOp.add IntKind.i64 i (ari BinOp.mul IntKind.i64 (256 : Int) (intAt (Array.extract ws (0 : Nat) (64 : Nat)) ((0 : Nat) + Int.toNat i * 1)))) (1 : Int))] ∧ True) ∧ ((intAt ws ((64 : Nat) + Int.toNat i * 5 + 2) == t) = false → QZ (ari BinOp.add IntKind.i64 i (1 : Int)) ∧ CallKind.normal = CallKind.normal ∧ TodoOk (ren 0 [(0, 0)]) hZ9_d0 hZ9_d0 ∧ r = r ∧ Value.slice none (0 : Nat) (0 : Nat) = Value.slice none (0 : Nat) (0 : Nat) ∧ t = t ∧ ari BinOp.add IntKind.i64 i (1 : Int) = ari BinOp.add IntKind.i64 i (1 : Int) ∧ (43 : TypeId) = (43 : TypeId) ∧ ws = ws ∧ True)) ∧ ((decide (t < (0 : Int)) == false) = false → ((64 : Nat) ≤ Array.size ws ∧ True) ∧ (((0 : Int) ≤ i ∧ i < (32 : Int)) ∧ True) ∧ (IsInt IntKind.i64 (Array.extract ws (0 : Nat) (64 : Nat)) ((0 : Nat) + Int.toNat i * 1) ∧ True) ∧ QS (ari BinOp.add IntKind.i64 i (1 : Int)) (1 : Nat) #[Value.int IntKind.i64 (ari BinOp.add IntKind.i64 (ari BinOp.add IntKind.i64 i (ari BinOp.mul IntKind.i64 (256 : Int) (intAt (Array.extract ws (0 : Nat) (64 : Nat)) ((0 : Nat) + Int.toNat i * 1)))) (1 : Int))] ∧ CallKind.normal = CallKind.normal ∧ TodoOk (ren 0 [(0, 0), (1, 3)]) hZ9_d0 hZ9_d0 ∧ r = r ∧ (1 : Nat) = (1 : Nat) ∧ t = t ∧ ari BinOp.add IntKind.i64 i (1 : Int) = ari BinOp.add IntKind.i64 i (1 : Int) ∧ (43 : TypeId) = (43 : TypeId) ∧ ws = ws ∧ (3 : TypeId) = (3 : Nat) ∧ #[Value.int IntKind.i64 (ari BinOp.add IntKind.i64 (ari BinOp.add IntKind.i64 i (ari BinOp.mul IntKind.i64 (256 : Int) (intAt (Array.extract ws (0 : Nat) (64 : Nat)) ((0 : Nat) + Int.toNat i * 1)))) (1 : Int))] = #[Value.int IntKind.i64 (ari BinOp.add IntKind.i64 (ari BinOp.add IntKind.i64 i (ari BinOp.mul IntKind.i64 (256 : Int) (intAt (Array.extract ws (0 : Nat) (64 : Nat)) ((0 : Nat) + Int.toNat i * 1)))) (1 : Int))] ∧ True)) ∧ (((intAt ws ((64 : Nat) + Int.toNat i * 5) == r) == true) = false → QZ (ari BinOp.add IntKind.i64 i (1 : Int)) ∧ CallKind.normal = CallKind.normal ∧ TodoOk (ren 0 [(0, 0)]) hZ9_d0 hZ9_d0 ∧ r = r ∧ Value.slice none (0 : Nat) (0 : Nat) = Value.slice none (0 : Nat) (0 : Nat) ∧ t = t ∧ ari BinOp.add IntKind.i64 i (1 : Int) = ari BinOp.add IntKind.i64 i (1 : Int) ∧ (43 : TypeId) = (43 : TypeId) ∧ ws = ws ∧ True)) ∧ ((decide (r < (0 : Int)) == false) = false → ((decide (t < (0 : Int)) == false) = true → (((0 : Int) ≤ i ∧ i < (32 : Int)) ∧ True) ∧ (IsInt IntKind.i64 ws ((64 : Nat) + Int.toNat i * 5 + 2) ∧ True) ∧ ((intAt ws ((64 : Nat) + Int.toNat i * 5 + 2) == t) = true → ((64 : Nat) ≤ Array.size ws ∧ True) ∧ (((0 : Int) ≤ i ∧ i < (32 : Int)) ∧ True) ∧ (IsInt IntKind.i64 (Array.extract ws (0 : Nat) (64 : Nat)) ((0 : Nat) + Int.toNat i * 1) ∧ True) ∧ QS (ari BinOp.add IntKind.i64 i (1 : Int)) (1 : Nat) #[Value.int IntKind.i64 (ari BinOp.add IntKind.i64 (ari BinOp.add IntKind.i64 i (ari BinOp.mul IntKind.i64 (256 : Int) (intAt (Array.extract ws (0 : Nat) (64 : Nat)) ((0 : Nat) + Int.toNat i * 1)))) (1 : Int))] ∧ CallKind.normal = CallKind.normal ∧ TodoOk (ren 0 [(0, 0), (1, 3)]) hZ9_d0 hZ9_d0 ∧ r = r ∧ (1 : Nat) = (1 : Nat) ∧ t = t ∧ ari BinOp.add IntKind.i64 i (1 : Int) = ari BinOp.add IntKind.i64 i (1 : Int) ∧ (43 : TypeId) = (43 : TypeId) ∧ ws = ws ∧ (3 : TypeId) = (3 : Nat) ∧ #[Value.int IntKind.i64 (ari BinOp.add IntKind.i64 (ari BinOp.add IntKind.i64 i (ari BinOp.mul IntKind.i64 (256 : Int) (intAt (Array.extract ws (0 : Nat) (64 : Nat)) ((0 : Nat) + Int.toNat i * 1)))) (1 : Int))] = #[Value.int IntKind.i64 (ari BinOp.add IntKind.i64 (ari BinOp.add IntKind.i64 i (ari BinOp.mul IntKind.i64 (256 : Int) (intAt (Array.extract ws (0 : Nat) (64 : Nat)) ((0 : Nat) + Int.toNat i * 1)))) (1 : Int))] ∧ True) ∧ ((intAt ws ((64 : Nat) + Int.toNat i * 5 + 2) == t) = false → QZ (ari BinOp.add IntKind.i64 i (1 : Int)) ∧ CallKind.normal = CallKind.normal ∧ TodoOk (ren 0 [(0, 0)]) hZ9_d0 hZ9_d0 ∧ r = r ∧ Value.slice none (0 : Nat) (0 : Nat) = Value.slice none (0 : Nat) (0 : Nat) ∧ t = t ∧ ari BinOp.add IntKind.i64 i (1 : Int) = ari BinOp.add IntKind.i64 i (1 : Int) ∧ (43 : TypeId) = (43 : TypeId) ∧ ws = ws ∧ True)) ∧ ((decide (t < (0 : Int)) == false) = false → ((64 : Nat) ≤ Array.size ws ∧ True) ∧ (((0 : Int) ≤ i ∧ i < (32 : Int)) ∧ True) ∧ (IsInt IntKind.i64 (Array.extract ws (0 : Nat) (64 : Nat)) ((0 : Nat) + Int.toNat i * 1) ∧ True) ∧ QS (ari BinOp.add IntKind.i64 i (1 : Int)) (1 : Nat) #[Value.int IntKind.i64 (ari BinOp.add IntKind.i64 (ari BinOp.add IntKind.i64 i (ari BinOp.mul IntKind.i64 (256 : Int) (intAt (Array.extract ws (0 : Nat) (64 : Nat)) ((0 : Nat) + Int.toNat i * 1)))) (1 : Int))] ∧ CallKind.normal = CallKind.normal ∧ TodoOk (ren 0 [(0, 0), (1, 3)]) hZ9_d0 hZ9_d0 ∧ r = r ∧ (1 : Nat) = (1 : Nat) ∧ t = t ∧ ari BinOp.add IntKind.i64 i (1 : Int) = ari BinOp.add IntKind.i64 i (1 : Int) ∧ (43 : TypeId) = (43 : TypeId) ∧ ws = ws ∧ (3 : TypeId) = (3 : Nat) ∧ #[Value.int IntKind.i64 (ari BinOp.add IntKind.i64 (ari BinOp.add IntKind.i64 i (ari BinOp.mul IntKind.i64 (256 : Int) (intAt (Array.extract ws (0 : Nat) (64 : Nat)) ((0 : Nat) + Int.toNat i * 1)))) (1 : Int))] = #[Value.int IntKind.i64 (ari BinOp.add IntKind.i64 (ari BinOp.add IntKind.i64 i (ari BinOp.mul IntKind.i64 (256 : Int) (intAt (Array.extract ws (0 : Nat) (64 : Nat)) ((0 : Nat) + Int.toNat i * 1)))) (1 : Int))] ∧ True))) ∧ (((intAt ws ((32 : Nat) + Int.toNat i * 1) == (1 : Int)) == true) = false → QZ (ari BinOp.add IntKind.i64 i (1 : Int)) ∧ CallKind.normal = CallKind.normal ∧ TodoOk (ren 0 [(0, 0)]) hZ9_d0 hZ9_d0 ∧ r = r ∧ Value.slice none (0 : Nat) (0 : Nat) = Value.slice none (0 : Nat) (0 : Nat) ∧ t = t ∧ ari BinOp.add IntKind.i64 i (1 : Int) = ari BinOp.add IntKind.i64 i (1 : Int) ∧ (43 : TypeId) = (43 : TypeId) ∧ ws = ws ∧ True)) ∧ (decide (i < (32 : Int)) = false → False)) := by kernel_rfl
theorem th3 (ws : Array Value) (r t : Int) (i : Int) (k : Nat) (cs : Array Value) (kF : Nat) (csF : Array Value) (QS : Int → Nat → Array Value → Prop) : (stepT EGt.go (run EGt 1000) 0 (hS9_F ws r t i k cs) (hS9_M ws r t i k cs)).vc (freshA kF csF 3) (hS9_n ws r t QS) =
    ((decide (i < (32 : Int)) = true → (((0 : Int) ≤ i ∧ i < (32 : Int)) ∧ True) ∧ (IsInt IntKind.i64 ws ((32 : Nat) + Int.toNat i * 1) ∧ True) ∧ (((intAt ws ((32 : Nat) + Int.toNat i * 1) == (1 : Int)) == true) = true → ((decide (r < (0 : Int)) == false) = true → (((0 : Int) ≤ i ∧ i < (32 : Int)) ∧ True) ∧ (IsInt IntKind.i64 ws ((64 : Nat) + Int.toNat i * 5) ∧ True) ∧ (((intAt ws ((64 : Nat) + Int.toNat i * 5) == r) == true) = true → ((decide (t < (0 : Int)) == false) = true → (((0 : Int) ≤ i ∧ i < (32 : Int)) ∧ True) ∧ (IsInt IntKind.i64 ws ((64 : Nat) + Int.toNat i * 5 + 2) ∧ True) ∧ ((intAt ws ((64 : Nat) + Int.toNat i * 5 + 2) == t) = true → ((64 : Nat) ≤ Array.size ws ∧ True) ∧ (((0 : Int) ≤ i ∧ i < (32 : Int)) ∧ True) ∧ (IsInt IntKind.i64 (Array.extract ws (0 : Nat) (64 : Nat)) ((0 : Nat) + Int.toNat i * 1) ∧ True) ∧ (((k + 1) * 8 ≤ (140737488355328 : Nat) ∧ k + 1 ≤ (140737488355328 : Nat)) ∧ k * 1 = Array.size cs ∧ True) ∧ QS (ari BinOp.add IntKind.i64 i (1 : Int)) (k + 1) (cs ++ #[Value.int IntKind.i64 (ari BinOp.add IntKind.i64 (ari BinOp.add IntKind.i64 i (ari BinOp.mul IntKind.i64 (256 : Int) (intAt (Array.extract ws (0 : Nat) (64 : Nat)) ((0 : Nat) + Int.toNat i * 1)))) (1 : Int))]) ∧ CallKind.normal = CallKind.normal ∧ TodoOk (ren 0 [(0, 0), (1, 4)]) hZ9_d0 hZ9_d0 ∧ r = r ∧ k + 1 = k + 1 ∧ t = t ∧ ari BinOp.add IntKind.i64 i (1 : Int) = ari BinOp.add IntKind.i64 i (1 : Int) ∧ (43 : TypeId) = (43 : TypeId) ∧ ws = ws ∧ (3 : TypeId) = (3 : Nat) ∧ cs ++ #[Value.int IntKind.i64 (ari BinOp.add IntKind.i64 (ari BinOp.add IntKind.i64 i (ari BinOp.mul IntKind.i64 (256 : Int) (intAt (Array.extract ws (0 : Nat) (64 : Nat)) ((0 : Nat) + Int.toNat i * 1)))) (1 : Int))] = cs ++ #[Value.int IntKind.i64 (ari BinOp.add IntKind.i64 (ari BinOp.add IntKind.i64 i (ari BinOp.mul IntKind.i64 (256 : Int) (intAt (Array.extract ws (0 : Nat) (64 : Nat)) ((0 : Nat) + Int.toNat i * 1)))) (1 : Int))] ∧ True) ∧ ((intAt ws ((64 : Nat) + Int.toNat i * 5 + 2) == t) = false → QS (ari BinOp.add IntKind.i64 i (1 : Int)) k cs ∧ CallKind.normal = CallKind.normal ∧ TodoOk (ren 0 [(0, 0), (1, 1)]) hZ9_d0 hZ9_d0 ∧ r = r ∧ k = k ∧ t = t ∧ ari BinOp.add IntKind.i64 i (1 : Int) = ari BinOp.add IntKind.i64 i (1 : Int) ∧ (43 : TypeId) = (43 : TypeId) ∧ ws = ws ∧ (3 : TypeId) = (3 : TypeId) ∧ cs = cs ∧ True)) ∧ ((decide (t < (0 : Int)) == false) = false → ((64 : Nat) ≤ Array.size ws ∧ True) ∧ (((0 : Int) ≤ i ∧ i < (32 : Int)) ∧ True) ∧ (IsInt IntKind.i64 (Array.extract ws (0 : Nat) (64 : Nat)) ((0 : Nat) + Int.toNat i * 1) ∧ True) ∧ (((k + 1) * 8 ≤ (140737488355328 : Nat) ∧ k + 1 ≤ (140737488355328 : Nat)) ∧ k * 1 = Array.size cs ∧ True) ∧ QS (ari BinOp.add IntKind.i64 i (1 : Int)) (k + 1) (cs ++ #[Value.int IntKind.i64 (ari BinOp.add IntKind.i64 (ari BinOp.add IntKind.i64 i (ari BinOp.mul IntKind.i64 (256 : Int) (intAt (Array.extract ws (0 : Nat) (64 : Nat)) ((0 : Nat) + Int.toNat i * 1)))) (1 : Int))]) ∧ CallKind.normal = CallKind.normal ∧ TodoOk (ren 0 [(0, 0), (1, 4)]) hZ9_d0 hZ9_d0 ∧ r = r ∧ k + 1 = k + 1 ∧ t = t ∧ ari BinOp.add IntKind.i64 i (1 : Int) = ari BinOp.add IntKind.i64 i (1 : Int) ∧ (43 : TypeId) = (43 : TypeId) ∧ ws = ws ∧ (3 : TypeId) = (3 : Nat) ∧ cs ++ #[Value.int IntKind.i64 (ari BinOp.add IntKind.i64 (ari BinOp.add IntKind.i64 i (ari BinOp.mul IntKind.i64 (256 : Int) (intAt (Array.extract ws (0 : Nat) (64 : Nat)) ((0 : Nat) + Int.toNat i * 1)))) (1 : Int))] = cs ++ #[Value.int IntKind.i64 (ari BinOp.add IntKind.i64 (ari BinOp.add IntKind.i64 i (ari BinOp.mul IntKind.i64 (256 : Int) (intAt (Array.extract ws (0 : Nat) (64 : Nat)) ((0 : Nat) + Int.toNat i * 1)))) (1 : Int))] ∧ True)) ∧ (((intAt ws ((64 : Nat) + Int.toNat i * 5) == r) == true) = false → QS (ari BinOp.add IntKind.i64 i (1 : Int)) k cs ∧ CallKind.normal = CallKind.normal ∧ TodoOk (ren 0 [(0, 0), (1, 1)]) hZ9_d0 hZ9_d0 ∧ r = r ∧ k = k ∧ t = t ∧ ari BinOp.add IntKind.i64 i (1 : Int) = ari BinOp.add IntKind.i64 i (1 : Int) ∧ (43 : TypeId) = (43 : TypeId) ∧ ws = ws ∧ (3 : TypeId) = (3 : TypeId) ∧ cs = cs ∧ True)) ∧ ((decide (r < (0 : Int)) == false) = false → ((decide (t < (0 : Int)) == false) = true → (((0 : Int) ≤ i ∧ i < (32 : Int)) ∧ True) ∧ (IsInt IntKind.i64 ws ((64 : Nat) + Int.toNat i * 5 + 2) ∧ True) ∧ ((intAt ws ((64 : Nat) + Int.toNat i * 5 + 2) == t) = true → ((64 : Nat) ≤ Array.size ws ∧ True) ∧ (((0 : Int) ≤ i ∧ i < (32 : Int)) ∧ True) ∧ (IsInt IntKind.i64 (Array.extract ws (0 : Nat) (64 : Nat)) ((0 : Nat) + Int.toNat i * 1) ∧ True) ∧ (((k + 1) * 8 ≤ (140737488355328 : Nat) ∧ k + 1 ≤ (140737488355328 : Nat)) ∧ k * 1 = Array.size cs ∧ True) ∧ QS (ari BinOp.add IntKind.i64 i (1 : Int)) (k + 1) (cs ++ #[Value.int IntKind.i64 (ari BinOp.add IntKind.i64 (ari BinOp.add IntKind.i64 i (ari BinOp.mul IntKind.i64 (256 : Int) (intAt (Array.extract ws (0 : Nat) (64 : Nat)) ((0 : Nat) + Int.toNat i * 1)))) (1 : Int))]) ∧ CallKind.normal = CallKind.normal ∧ TodoOk (ren 0 [(0, 0), (1, 4)]) hZ9_d0 hZ9_d0 ∧ r = r ∧ k + 1 = k + 1 ∧ t = t ∧ ari BinOp.add IntKind.i64 i (1 : Int) = ari BinOp.add IntKind.i64 i (1 : Int) ∧ (43 : TypeId) = (43 : TypeId) ∧ ws = ws ∧ (3 : TypeId) = (3 : Nat) ∧ cs ++ #[Value.int IntKind.i64 (ari BinOp.add IntKind.i64 (ari BinOp.add IntKind.i64 i (ari BinOp.mul IntKind.i64 (256 : Int) (intAt (Array.extract ws (0 : Nat) (64 : Nat)) ((0 : Nat) + Int.toNat i * 1)))) (1 : Int))] = cs ++ #[Value.int IntKind.i64 (ari BinOp.add IntKind.i64 (ari BinOp.add IntKind.i64 i (ari BinOp.mul IntKind.i64 (256 : Int) (intAt (Array.extract ws (0 : Nat) (64 : Nat)) ((0 : Nat) + Int.toNat i * 1)))) (1 : Int))] ∧ True) ∧ ((intAt ws ((64 : Nat) + Int.toNat i * 5 + 2) == t) = false → QS (ari BinOp.add IntKind.i64 i (1 : Int)) k cs ∧ CallKind.normal = CallKind.normal ∧ TodoOk (ren 0 [(0, 0), (1, 1)]) hZ9_d0 hZ9_d0 ∧ r = r ∧ k = k ∧ t = t ∧ ari BinOp.add IntKind.i64 i (1 : Int) = ari BinOp.add IntKind.i64 i (1 : Int) ∧ (43 : TypeId) = (43 : TypeId) ∧ ws = ws ∧ (3 : TypeId) = (3 : TypeId) ∧ cs = cs ∧ True)) ∧ ((decide (t < (0 : Int)) == false) = false → ((64 : Nat) ≤ Array.size ws ∧ True) ∧ (((0 : Int) ≤ i ∧ i < (32 : Int)) ∧ True) ∧ (IsInt IntKind.i64 (Array.extract ws (0 : Nat) (64 : Nat)) ((0 : Nat) + Int.toNat i * 1) ∧ True) ∧ (((k + 1) * 8 ≤ (140737488355328 : Nat) ∧ k + 1 ≤ (140737488355328 : Nat)) ∧ k * 1 = Array.size cs ∧ True) ∧ QS (ari BinOp.add IntKind.i64 i (1 : Int)) (k + 1) (cs ++ #[Value.int IntKind.i64 (ari BinOp.add IntKind.i64 (ari BinOp.add IntKind.i64 i (ari BinOp.mul IntKind.i64 (256 : Int) (intAt (Array.extract ws (0 : Nat) (64 : Nat)) ((0 : Nat) + Int.toNat i * 1)))) (1 : Int))]) ∧ CallKind.normal = CallKind.normal ∧ TodoOk (ren 0 [(0, 0), (1, 4)]) hZ9_d0 hZ9_d0 ∧ r = r ∧ k + 1 = k + 1 ∧ t = t ∧ ari BinOp.add IntKind.i64 i (1 : Int) = ari BinOp.add IntKind.i64 i (1 : Int) ∧ (43 : TypeId) = (43 : TypeId) ∧ ws = ws ∧ (3 : TypeId) = (3 : Nat) ∧ cs ++ #[Value.int IntKind.i64 (ari BinOp.add IntKind.i64 (ari BinOp.add IntKind.i64 i (ari BinOp.mul IntKind.i64 (256 : Int) (intAt (Array.extract ws (0 : Nat) (64 : Nat)) ((0 : Nat) + Int.toNat i * 1)))) (1 : Int))] = cs ++ #[Value.int IntKind.i64 (ari BinOp.add IntKind.i64 (ari BinOp.add IntKind.i64 i (ari BinOp.mul IntKind.i64 (256 : Int) (intAt (Array.extract ws (0 : Nat) (64 : Nat)) ((0 : Nat) + Int.toNat i * 1)))) (1 : Int))] ∧ True))) ∧ (((intAt ws ((32 : Nat) + Int.toNat i * 1) == (1 : Int)) == true) = false → QS (ari BinOp.add IntKind.i64 i (1 : Int)) k cs ∧ CallKind.normal = CallKind.normal ∧ TodoOk (ren 0 [(0, 0), (1, 1)]) hZ9_d0 hZ9_d0 ∧ r = r ∧ k = k ∧ t = t ∧ ari BinOp.add IntKind.i64 i (1 : Int) = ari BinOp.add IntKind.i64 i (1 : Int) ∧ (43 : TypeId) = (43 : TypeId) ∧ ws = ws ∧ (3 : TypeId) = (3 : TypeId) ∧ cs = cs ∧ True)) ∧ (decide (i < (32 : Int)) = false → kF = k ∧ (3 : TypeId) = (3 : TypeId) ∧ csF = cs ∧ True)) := by kernel_rfl
theorem gc0 (ws : Array Value) (r : Int) (o : Array Value) (k : Nat) (rs : Array Value) (Q : Int → Array Value → Array Value → Prop) : (gCm ws r).vc (retOk 0 [] (wsS o) e0M) (gC_n ws k rs Q) =
    ((Array.size ws = (224 : Nat) ∧ True) ∧ (WsOk ws ∧ True) ∧ (decide (List.length (thoseW ws r (-1 : Int) (32 : Nat)) = (0 : Nat)) = true → (Array.size ws = (224 : Nat) ∧ True) ∧ (Array.size ws = (224 : Nat) ∧ Array.size ws = (224 : Nat) ∧ True) ∧ (Array.size ws = (224 : Nat) ∧ True) ∧ o = ws ∧ True) ∧ (decide (List.length (thoseW ws r (-1 : Int) (32 : Nat)) = (0 : Nat)) = false → (decide ((0 : Int) < (↑(List.length (thoseW ws r (-1 : Int) (32 : Nat))) : Int)) = true → Q (0 : Int) ws zA43 ∧ CallKind.normal = CallKind.normal ∧ TodoOk (ren 0 [(0, 0), (1, 1), (2, 2)]) gC_d0 gC_d0 ∧ k = List.length (thoseW ws r (-1 : Int) (32 : Nat)) ∧ (0 : Int) = (0 : Int) ∧ (43 : TypeId) = (43 : Nat) ∧ ws = ws ∧ (43 : TypeId) = (43 : Nat) ∧ zA43 = zA43 ∧ (3 : TypeId) = (3 : TypeId) ∧ rs = i64s (thoseW ws r (-1 : Int) (32 : Nat)) ∧ True) ∧ (decide ((0 : Int) < (↑(List.length (thoseW ws r (-1 : Int) (32 : Nat))) : Int)) = false → (Array.size ws = (224 : Nat) ∧ True) ∧ (Array.size ws = (224 : Nat) ∧ Array.size ws = (224 : Nat) ∧ True) ∧ (Array.size ws = (224 : Nat) ∧ True) ∧ o = ws ∧ True))) := by kernel_rfl
theorem gc1 (ws0 : Array Value) (k : Nat) (rs : Array Value) (i : Int) (ws zz o : Array Value) (Q : Int → Array Value → Array Value → Prop) : (stepT EG.go (run EG 1000) 0 (gC_F ws0 k rs i ws zz) (gC_M ws0 k rs i ws zz)).vc (retOk 0 [] (wsS o) e0M) (gC_n ws0 k rs Q) =
    (((64 : Nat) ≤ Array.size ws ∧ True) ∧ (((0 : Int) ≤ i ∧ i < (↑k : Int)) ∧ True) ∧ (IsInt IntKind.i64 rs ((0 : Nat) + Int.toNat i * 1) ∧ True) ∧ (RbOk (Array.extract ws (0 : Nat) (64 : Nat)) ∧ True) ∧ (Array.size (voidW (Array.extract ws (0 : Nat) (64 : Nat)) (intAt rs ((0 : Nat) + Int.toNat i * 1))) = (64 : Nat) ∧ (0 : Nat) + Array.size (voidW (Array.extract ws (0 : Nat) (64 : Nat)) (intAt rs ((0 : Nat) + Int.toNat i * 1))) ≤ Array.size ws ∧ True) ∧ (decide (ari BinOp.add IntKind.i64 i (1 : Int) < (↑k : Int)) = true → Q (ari BinOp.add IntKind.i64 i (1 : Int)) (putAt ws (0 : Nat) (Array.toList (voidW (Array.extract ws (0 : Nat) (64 : Nat)) (intAt rs ((0 : Nat) + Int.toNat i * 1))))) zz ∧ CallKind.normal = CallKind.normal ∧ TodoOk (ren 0 [(0, 0), (1, 1), (2, 2)]) gC_d0 gC_d0 ∧ k = k ∧ ari BinOp.add IntKind.i64 i (1 : Int) = ari BinOp.add IntKind.i64 i (1 : Int) ∧ (43 : TypeId) = (43 : TypeId) ∧ putAt ws (0 : Nat) (Array.toList (voidW (Array.extract ws (0 : Nat) (64 : Nat)) (intAt rs ((0 : Nat) + Int.toNat i * 1)))) = putAt ws (0 : Nat) (Array.toList (voidW (Array.extract ws (0 : Nat) (64 : Nat)) (intAt rs ((0 : Nat) + Int.toNat i * 1)))) ∧ (43 : TypeId) = (43 : TypeId) ∧ zz = zz ∧ (3 : TypeId) = (3 : TypeId) ∧ rs = rs ∧ True) ∧ (decide (ari BinOp.add IntKind.i64 i (1 : Int) < (↑k : Int)) = false → (Array.size (putAt ws (0 : Nat) (Array.toList (voidW (Array.extract ws (0 : Nat) (64 : Nat)) (intAt rs ((0 : Nat) + Int.toNat i * 1))))) = (224 : Nat) ∧ True) ∧ (Array.size (putAt ws (0 : Nat) (Array.toList (voidW (Array.extract ws (0 : Nat) (64 : Nat)) (intAt rs ((0 : Nat) + Int.toNat i * 1))))) = (224 : Nat) ∧ Array.size (putAt ws (0 : Nat) (Array.toList (voidW (Array.extract ws (0 : Nat) (64 : Nat)) (intAt rs ((0 : Nat) + Int.toNat i * 1))))) = Array.size zz ∧ True) ∧ (Array.size (putAt ws (0 : Nat) (Array.toList (voidW (Array.extract ws (0 : Nat) (64 : Nat)) (intAt rs ((0 : Nat) + Int.toNat i * 1))))) = (224 : Nat) ∧ True) ∧ o = putAt ws (0 : Nat) (Array.toList (voidW (Array.extract ws (0 : Nat) (64 : Nat)) (intAt rs ((0 : Nat) + Int.toNat i * 1)))) ∧ True)) := by kernel_rfl
theorem ld0 (ws : Array Value) (r b t : Int) (mu : Bool) (a : Int) (o : Array Value) (h e : Int) (Q : Array Value → Prop) : (run EGv 1000 0 [callFr 13 Try.f13.ntmps [wsS ws, tkW r b t mu a] (Try.f13.body.getD .skip)] e0M).vc (retOk 0 [] (lnS o h e) e0M) (gV3_n ws r b t mu a Q) =
    ((((a != (0 : Int)) == true) = true → ((64 : Nat) ≤ Array.size ws ∧ True) ∧ (RbOk (Array.extract ws (0 : Nat) (64 : Nat)) ∧ True) ∧ (decide (slotW (Array.extract ws (0 : Nat) (64 : Nat)) a < (0 : Int)) = true → (Array.size ws = (224 : Nat) ∧ True) ∧ (Array.size ws = (224 : Nat) ∧ Array.size ws = (224 : Nat) ∧ True) ∧ (Array.size ws = (224 : Nat) ∧ True) ∧ o = ws ∧ h = (0 : Int) ∧ e = (4 : Int) ∧ True) ∧ (decide (slotW (Array.extract ws (0 : Nat) (64 : Nat)) a < (0 : Int)) = false → Q zA43 ∧ CallKind.normal = CallKind.normal ∧ TodoOk (ren 0 [(0, 0), (1, 1), (2, 2)]) gV3_d0 gV3_d0 ∧ (43 : TypeId) = (43 : Nat) ∧ ws = ws ∧ (40 : TypeId) = (40 : Nat) ∧ r = r ∧ b = b ∧ t = t ∧ mu = mu ∧ a = a ∧ (43 : TypeId) = (43 : Nat) ∧ zA43 = zA43 ∧ True)) ∧ (((a != (0 : Int)) == true) = false → Q zA43 ∧ CallKind.normal = CallKind.normal ∧ TodoOk (ren 0 [(0, 0), (1, 1), (2, 2)]) gV3_d0 gV3_d0 ∧ (43 : TypeId) = (43 : Nat) ∧ ws = ws ∧ (40 : TypeId) = (40 : Nat) ∧ r = r ∧ b = b ∧ t = t ∧ mu = mu ∧ a = a ∧ (43 : TypeId) = (43 : Nat) ∧ zA43 = zA43 ∧ True)) := by kernel_rfl
theorem ld3 (ws : Array Value) (r b t : Int) (mu : Bool) (a : Int) (zz o : Array Value) (h e : Int) (Q : Array Value → Prop) : (stepT EGv.go (run EGv 1000) 0 (gV3_F ws r b t mu a zz) (gV3_M ws r b t mu a zz)).vc (retOk 0 [] (lnS o h e) e0M) (gV5_n ws r b t mu a Q) =
    (((decide (b > (7 : Int)) == false) = true → ((decide (t > (7 : Int)) == false) = true → (((b == t) == false) = true → ((r == (0 : Int)) = true → (Array.size ws = (224 : Nat) ∧ True) ∧ (Array.size ws = (224 : Nat) ∧ Array.size ws = Array.size zz ∧ True) ∧ (Array.size ws = (224 : Nat) ∧ True) ∧ o = ws ∧ h = (0 : Int) ∧ e = (2 : Int) ∧ True) ∧ ((r == (0 : Int)) = false → Q zz ∧ CallKind.normal = CallKind.normal ∧ TodoOk (ren 0 [(0, 0), (1, 1), (2, 2)]) gV5_d0 gV5_d0 ∧ (43 : TypeId) = (43 : TypeId) ∧ ws = ws ∧ (40 : TypeId) = (40 : TypeId) ∧ r = r ∧ b = b ∧ t = t ∧ mu = mu ∧ a = a ∧ (43 : TypeId) = (43 : TypeId) ∧ zz = zz ∧ True)) ∧ (((b == t) == false) = false → (Array.size ws = (224 : Nat) ∧ True) ∧ (Array.size ws = (224 : Nat) ∧ Array.size ws = Array.size zz ∧ True) ∧ (Array.size ws = (224 : Nat) ∧ True) ∧ o = ws ∧ h = (0 : Int) ∧ e = (2 : Int) ∧ True)) ∧ ((decide (t > (7 : Int)) == false) = false → (Array.size ws = (224 : Nat) ∧ True) ∧ (Array.size ws = (224 : Nat) ∧ Array.size ws = Array.size zz ∧ True) ∧ (Array.size ws = (224 : Nat) ∧ True) ∧ o = ws ∧ h = (0 : Int) ∧ e = (2 : Int) ∧ True)) ∧ ((decide (b > (7 : Int)) == false) = false → (Array.size ws = (224 : Nat) ∧ True) ∧ (Array.size ws = (224 : Nat) ∧ Array.size ws = Array.size zz ∧ True) ∧ (Array.size ws = (224 : Nat) ∧ True) ∧ o = ws ∧ h = (0 : Int) ∧ e = (2 : Int) ∧ True)) := by kernel_rfl
theorem ld5 (ws : Array Value) (r b t : Int) (mu : Bool) (a : Int) (zz o : Array Value) (h e : Int) (Q : Array Value → Prop) : (stepT EGv.go (run EGv 1000) 0 (gV5_F ws r b t mu a zz) (gV5_M ws r b t mu a zz)).vc (retOk 0 [] (lnS o h e) e0M) (gV9_n ws r b t mu a Q) =
    (((a != (0 : Int)) = true → ((64 : Nat) ≤ Array.size ws ∧ True) ∧ (RbOk (Array.extract ws (0 : Nat) (64 : Nat)) ∧ True) ∧ (((0 : Int) ≤ slotW (Array.extract ws (0 : Nat) (64 : Nat)) a ∧ slotW (Array.extract ws (0 : Nat) (64 : Nat)) a < (32 : Int)) ∧ True) ∧ (IsInt IntKind.i64 ws ((64 : Nat) + Int.toNat (slotW (Array.extract ws (0 : Nat) (64 : Nat)) a) * 5) ∧ IsInt IntKind.i64 ws ((64 : Nat) + Int.toNat (slotW (Array.extract ws (0 : Nat) (64 : Nat)) a) * 5 + 1) ∧ IsInt IntKind.i64 ws ((64 : Nat) + Int.toNat (slotW (Array.extract ws (0 : Nat) (64 : Nat)) a) * 5 + 2) ∧ IsBool ws ((64 : Nat) + Int.toNat (slotW (Array.extract ws (0 : Nat) (64 : Nat)) a) * 5 + 3) ∧ IsInt IntKind.i64 ws ((64 : Nat) + Int.toNat (slotW (Array.extract ws (0 : Nat) (64 : Nat)) a) * 5 + 4) ∧ True) ∧ (((intAt ws ((64 : Nat) + Int.toNat (slotW (Array.extract ws (0 : Nat) (64 : Nat)) a) * 5) != r) == false) = true → (((intAt ws ((64 : Nat) + Int.toNat (slotW (Array.extract ws (0 : Nat) (64 : Nat)) a) * 5 + 2) != b) == false) = true → ((mu == true) = true → ((!boolAt ws ((64 : Nat) + Int.toNat (slotW (Array.extract ws (0 : Nat) (64 : Nat)) a) * 5 + 3)) = true → (Array.size ws = (224 : Nat) ∧ True) ∧ (Array.size ws = (224 : Nat) ∧ Array.size ws = Array.size zz ∧ True) ∧ (Array.size ws = (224 : Nat) ∧ True) ∧ o = ws ∧ h = (0 : Int) ∧ e = (12 : Int) ∧ True) ∧ ((!boolAt ws ((64 : Nat) + Int.toNat (slotW (Array.extract ws (0 : Nat) (64 : Nat)) a) * 5 + 3)) = false → Q zz ∧ CallKind.normal = CallKind.normal ∧ TodoOk (ren 0 [(0, 0), (1, 1), (2, 2)]) gV9_d0 gV9_d0 ∧ (43 : TypeId) = (43 : TypeId) ∧ ws = ws ∧ (40 : TypeId) = (40 : TypeId) ∧ r = r ∧ b = b ∧ t = t ∧ mu = mu ∧ a = a ∧ (43 : TypeId) = (43 : TypeId) ∧ zz = zz ∧ True)) ∧ ((mu == true) = false → Q zz ∧ CallKind.normal = CallKind.normal ∧ TodoOk (ren 0 [(0, 0), (1, 1), (2, 2)]) gV9_d0 gV9_d0 ∧ (43 : TypeId) = (43 : TypeId) ∧ ws = ws ∧ (40 : TypeId) = (40 : TypeId) ∧ r = r ∧ b = b ∧ t = t ∧ mu = mu ∧ a = a ∧ (43 : TypeId) = (43 : TypeId) ∧ zz = zz ∧ True)) ∧ (((intAt ws ((64 : Nat) + Int.toNat (slotW (Array.extract ws (0 : Nat) (64 : Nat)) a) * 5 + 2) != b) == false) = false → (Array.size ws = (224 : Nat) ∧ True) ∧ (Array.size ws = (224 : Nat) ∧ Array.size ws = Array.size zz ∧ True) ∧ (Array.size ws = (224 : Nat) ∧ True) ∧ o = ws ∧ h = (0 : Int) ∧ e = (12 : Int) ∧ True)) ∧ (((intAt ws ((64 : Nat) + Int.toNat (slotW (Array.extract ws (0 : Nat) (64 : Nat)) a) * 5) != r) == false) = false → (Array.size ws = (224 : Nat) ∧ True) ∧ (Array.size ws = (224 : Nat) ∧ Array.size ws = Array.size zz ∧ True) ∧ (Array.size ws = (224 : Nat) ∧ True) ∧ o = ws ∧ h = (0 : Int) ∧ e = (12 : Int) ∧ True)) ∧ ((a != (0 : Int)) = false → Q zz ∧ CallKind.normal = CallKind.normal ∧ TodoOk (ren 0 [(0, 0), (1, 1), (2, 2)]) gV9_d0 gV9_d0 ∧ (43 : TypeId) = (43 : TypeId) ∧ ws = ws ∧ (40 : TypeId) = (40 : TypeId) ∧ r = r ∧ b = b ∧ t = t ∧ mu = mu ∧ a = a ∧ (43 : TypeId) = (43 : TypeId) ∧ zz = zz ∧ True)) := by kernel_rfl
theorem ld9 (ws : Array Value) (r b t : Int) (mu : Bool) (a : Int) (zz o : Array Value) (h e : Int) (Q : Array Value → Prop) : (stepT EGv.go (run EGv 1000) 0 (gV9_F ws r b t mu a zz) (gV9_M ws r b t mu a zz)).vc (retOk 0 [] (lnS o h e) e0M) (gV11_n ws r b t mu a Q) =
    ((Array.size ws = (224 : Nat) ∧ True) ∧ (WsOk ws ∧ True) ∧ (((!readsW ws r a) == false) = true → ((mu == true) = true → (Array.size ws = (224 : Nat) ∧ True) ∧ (WsOk ws ∧ True) ∧ ((!writesW ws r a) = true → (Array.size ws = (224 : Nat) ∧ True) ∧ (Array.size ws = (224 : Nat) ∧ Array.size ws = Array.size zz ∧ True) ∧ (Array.size ws = (224 : Nat) ∧ True) ∧ o = ws ∧ h = (0 : Int) ∧ e = (5 : Int) ∧ True) ∧ ((!writesW ws r a) = false → Q zz ∧ CallKind.normal = CallKind.normal ∧ TodoOk (ren 0 [(0, 0), (1, 1), (2, 2)]) gV11_d0 gV11_d0 ∧ (43 : TypeId) = (43 : TypeId) ∧ ws = ws ∧ (40 : TypeId) = (40 : TypeId) ∧ r = r ∧ b = b ∧ t = t ∧ mu = mu ∧ a = a ∧ (43 : TypeId) = (43 : TypeId) ∧ zz = zz ∧ True)) ∧ ((mu == true) = false → Q zz ∧ CallKind.normal = CallKind.normal ∧ TodoOk (ren 0 [(0, 0), (1, 1), (2, 2)]) gV11_d0 gV11_d0 ∧ (43 : TypeId) = (43 : TypeId) ∧ ws = ws ∧ (40 : TypeId) = (40 : TypeId) ∧ r = r ∧ b = b ∧ t = t ∧ mu = mu ∧ a = a ∧ (43 : TypeId) = (43 : TypeId) ∧ zz = zz ∧ True)) ∧ (((!readsW ws r a) == false) = false → (Array.size ws = (224 : Nat) ∧ True) ∧ (Array.size ws = (224 : Nat) ∧ Array.size ws = Array.size zz ∧ True) ∧ (Array.size ws = (224 : Nat) ∧ True) ∧ o = ws ∧ h = (0 : Int) ∧ e = (5 : Int) ∧ True)) := by kernel_rfl
theorem ld11 (ws : Array Value) (r b t : Int) (mu : Bool) (a : Int) (zz o : Array Value) (h e : Int) : (stepT EGv.go (run EGv 1000) 0 (gV11_F ws r b t mu a zz) (gV11_M ws r b t mu a zz)).vc (retOk 0 [] (lnS o h e) e0M) (fun _ _ => False) =
    (((64 : Nat) ≤ Array.size ws ∧ True) ∧ (RbOk (Array.extract ws (0 : Nat) (64 : Nat)) ∧ True) ∧ (Array.size (issW (Array.extract ws (0 : Nat) (64 : Nat))) = (64 : Nat) ∧ Array.size (issW (Array.extract ws (0 : Nat) (64 : Nat))) = (64 : Nat) ∧ True) ∧ (((issWI (Array.extract ws (0 : Nat) (64 : Nat)) == (0 : Int)) == false) = true → (Array.size (issW (Array.extract ws (0 : Nat) (64 : Nat))) = (64 : Nat) ∧ True) ∧ (RbOk (issW (Array.extract ws (0 : Nat) (64 : Nat))) ∧ True) ∧ (decide (slotW (issW (Array.extract ws (0 : Nat) (64 : Nat))) (issWI (Array.extract ws (0 : Nat) (64 : Nat))) > (15 : Int)) = true → (Array.size ws = (224 : Nat) ∧ True) ∧ (Array.size ws = (224 : Nat) ∧ Array.size ws = Array.size zz ∧ True) ∧ (Array.size ws = (224 : Nat) ∧ True) ∧ o = ws ∧ h = (0 : Int) ∧ e = (7 : Int) ∧ True) ∧ (decide (slotW (issW (Array.extract ws (0 : Nat) (64 : Nat))) (issWI (Array.extract ws (0 : Nat) (64 : Nat))) > (15 : Int)) = false → (Array.size (issW (Array.extract ws (0 : Nat) (64 : Nat))) = (64 : Nat) ∧ True) ∧ (Array.size (issW (Array.extract ws (0 : Nat) (64 : Nat))) = (64 : Nat) ∧ (0 : Nat) + Array.size (issW (Array.extract ws (0 : Nat) (64 : Nat))) ≤ Array.size ws ∧ True) ∧ (Array.size (issW (Array.extract ws (0 : Nat) (64 : Nat))) = (64 : Nat) ∧ True) ∧ (RbOk (issW (Array.extract ws (0 : Nat) (64 : Nat))) ∧ True) ∧ (((0 : Int) ≤ slotW (issW (Array.extract ws (0 : Nat) (64 : Nat))) (issWI (Array.extract ws (0 : Nat) (64 : Nat))) ∧ slotW (issW (Array.extract ws (0 : Nat) (64 : Nat))) (issWI (Array.extract ws (0 : Nat) (64 : Nat))) < (32 : Int)) ∧ True) ∧ ((64 : Nat) + Int.toNat (slotW (issW (Array.extract ws (0 : Nat) (64 : Nat))) (issWI (Array.extract ws (0 : Nat) (64 : Nat)))) * 5 + List.length [Value.int IntKind.i64 r, Value.int IntKind.i64 b, Value.int IntKind.i64 t, Value.bool mu, Value.int IntKind.i64 a] ≤ Array.size (putAt ws (0 : Nat) (Array.toList (issW (Array.extract ws (0 : Nat) (64 : Nat))))) ∧ True) ∧ (Array.size (putAt (putAt ws (0 : Nat) (Array.toList (issW (Array.extract ws (0 : Nat) (64 : Nat))))) ((64 : Nat) + Int.toNat (slotW (issW (Array.extract ws (0 : Nat) (64 : Nat))) (issWI (Array.extract ws (0 : Nat) (64 : Nat)))) * 5) [Value.int IntKind.i64 r, Value.int IntKind.i64 b, Value.int IntKind.i64 t, Value.bool mu, Value.int IntKind.i64 a]) = (224 : Nat) ∧ True) ∧ (Array.size (putAt (putAt ws (0 : Nat) (Array.toList (issW (Array.extract ws (0 : Nat) (64 : Nat))))) ((64 : Nat) + Int.toNat (slotW (issW (Array.extract ws (0 : Nat) (64 : Nat))) (issWI (Array.extract ws (0 : Nat) (64 : Nat)))) * 5) [Value.int IntKind.i64 r, Value.int IntKind.i64 b, Value.int IntKind.i64 t, Value.bool mu, Value.int IntKind.i64 a]) = (224 : Nat) ∧ Array.size (putAt (putAt ws (0 : Nat) (Array.toList (issW (Array.extract ws (0 : Nat) (64 : Nat))))) ((64 : Nat) + Int.toNat (slotW (issW (Array.extract ws (0 : Nat) (64 : Nat))) (issWI (Array.extract ws (0 : Nat) (64 : Nat)))) * 5) [Value.int IntKind.i64 r, Value.int IntKind.i64 b, Value.int IntKind.i64 t, Value.bool mu, Value.int IntKind.i64 a]) = Array.size zz ∧ True) ∧ (Array.size (putAt (putAt ws (0 : Nat) (Array.toList (issW (Array.extract ws (0 : Nat) (64 : Nat))))) ((64 : Nat) + Int.toNat (slotW (issW (Array.extract ws (0 : Nat) (64 : Nat))) (issWI (Array.extract ws (0 : Nat) (64 : Nat)))) * 5) [Value.int IntKind.i64 r, Value.int IntKind.i64 b, Value.int IntKind.i64 t, Value.bool mu, Value.int IntKind.i64 a]) = (224 : Nat) ∧ True) ∧ o = putAt (putAt ws (0 : Nat) (Array.toList (issW (Array.extract ws (0 : Nat) (64 : Nat))))) ((64 : Nat) + Int.toNat (slotW (issW (Array.extract ws (0 : Nat) (64 : Nat))) (issWI (Array.extract ws (0 : Nat) (64 : Nat)))) * 5) [Value.int IntKind.i64 r, Value.int IntKind.i64 b, Value.int IntKind.i64 t, Value.bool mu, Value.int IntKind.i64 a] ∧ h = issWI (Array.extract ws (0 : Nat) (64 : Nat)) ∧ e = (0 : Int) ∧ True)) ∧ (((issWI (Array.extract ws (0 : Nat) (64 : Nat)) == (0 : Int)) == false) = false → (Array.size ws = (224 : Nat) ∧ True) ∧ (Array.size ws = (224 : Nat) ∧ Array.size ws = Array.size zz ∧ True) ∧ (Array.size ws = (224 : Nat) ∧ True) ∧ o = ws ∧ h = (0 : Int) ∧ e = (7 : Int) ∧ True)) := by kernel_rfl
theorem rq0 (ws : Array Value) (x : Int) (q : Prop) (Q : Bool → Int → Array Value → Array Value → Prop) : (run EGr 1000 0 [callFr 8 Try.f8.ntmps [wsS ws, i64 (.o x)] (Try.f8.body.getD .skip)] e0M).vc (rBad q ws) (qA_n ws Q) =
    (((64 : Nat) ≤ Array.size ws ∧ True) ∧ (RbOk (Array.extract ws (0 : Nat) (64 : Nat)) ∧ True) ∧ (decide (slotW (Array.extract ws (0 : Nat) (64 : Nat)) x < (0 : Int)) = true → (Array.size ws = (224 : Nat) ∧ True) ∧ (Array.size ws = (224 : Nat) ∧ Array.size ws = (224 : Nat) ∧ True) ∧ (Array.size ws = (224 : Nat) ∧ True) ∧ q ∧ ws = ws ∧ (4 : Int) = (4 : Int)) ∧ (decide (slotW (Array.extract ws (0 : Nat) (64 : Nat)) x < (0 : Int)) = false → ((64 : Nat) ≤ Array.size ws ∧ True) ∧ (RbOk (Array.extract ws (0 : Nat) (64 : Nat)) ∧ True) ∧ (((0 : Int) ≤ slotW (Array.extract ws (0 : Nat) (64 : Nat)) x ∧ slotW (Array.extract ws (0 : Nat) (64 : Nat)) x < (32 : Int)) ∧ True) ∧ ((0 : Nat) + Int.toNat (slotW (Array.extract ws (0 : Nat) (64 : Nat)) x) * 1 < (32 : Nat) ∧ True) ∧ Q false (0 : Int) (Array.setIfInBounds #[Value.bool false, Value.bool false, Value.bool false, Value.bool false, Value.bool false, Value.bool false, Value.bool false, Value.bool false, Value.bool false, Value.bool false, Value.bool false, Value.bool false, Value.bool false, Value.bool false, Value.bool false, Value.bool false, Value.bool false, Value.bool false, Value.bool false, Value.bool false, Value.bool false, Value.bool false, Value.bool false, Value.bool false, Value.bool false, Value.bool false, Value.bool false, Value.bool false, Value.bool false, Value.bool false, Value.bool false, Value.bool false] ((0 : Nat) + Int.toNat (slotW (Array.extract ws (0 : Nat) (64 : Nat)) x) * 1) (Value.bool true)) zA43 ∧ CallKind.normal = CallKind.normal ∧ TodoOk (ren 0 [(0, 0), (1, 1), (2, 2)]) qA_d0 qA_d0 ∧ (0 : Int) = (0 : Int) ∧ false = false ∧ (43 : TypeId) = (43 : Nat) ∧ ws = ws ∧ (43 : TypeId) = (43 : Nat) ∧ zA43 = zA43 ∧ (80 : TypeId) = (80 : Nat) ∧ Array.setIfInBounds #[Value.bool false, Value.bool false, Value.bool false, Value.bool false, Value.bool false, Value.bool false, Value.bool false, Value.bool false, Value.bool false, Value.bool false, Value.bool false, Value.bool false, Value.bool false, Value.bool false, Value.bool false, Value.bool false, Value.bool false, Value.bool false, Value.bool false, Value.bool false, Value.bool false, Value.bool false, Value.bool false, Value.bool false, Value.bool false, Value.bool false, Value.bool false, Value.bool false, Value.bool false, Value.bool false, Value.bool false, Value.bool false] ((0 : Nat) + Int.toNat (slotW (Array.extract ws (0 : Nat) (64 : Nat)) x) * 1) (Value.bool true) = Array.setIfInBounds #[Value.bool false, Value.bool false, Value.bool false, Value.bool false, Value.bool false, Value.bool false, Value.bool false, Value.bool false, Value.bool false, Value.bool false, Value.bool false, Value.bool false, Value.bool false, Value.bool false, Value.bool false, Value.bool false, Value.bool false, Value.bool false, Value.bool false, Value.bool false, Value.bool false, Value.bool false, Value.bool false, Value.bool false, Value.bool false, Value.bool false, Value.bool false, Value.bool false, Value.bool false, Value.bool false, Value.bool false, Value.bool false] ((0 : Nat) + Int.toNat (slotW (Array.extract ws (0 : Nat) (64 : Nat)) x) * 1) (Value.bool true) ∧ True)) := by kernel_rfl
theorem rz1 (ws gs : Array Value) (i : Int) (nw zz : Array Value) (o : Array Value) (kF : Nat) (csF : Array Value) (QZ : Int → Array Value → Array Value → Prop) (QS : Int → Array Value → Array Value → Nat → Array Value → Prop) : (stepT EGr.go (run EGr 1000) 0 (qZ_F ws gs i nw zz) (qZ_M ws gs i nw zz)).vc (rOkW o kF csF) (qZS ws gs QZ QS) =
    ((decide (i < (32 : Int)) = true → (((0 : Int) ≤ i ∧ i < (32 : Int)) ∧ True) ∧ (IsBool gs ((0 : Nat) + Int.toNat i * 1) ∧ True) ∧ (boolAt gs ((0 : Nat) + Int.toNat i * 1) = true → ((64 : Nat) ≤ Array.size ws ∧ True) ∧ (((0 : Int) ≤ i ∧ i < (32 : Int)) ∧ True) ∧ (IsInt IntKind.i64 (Array.extract ws (0 : Nat) (64 : Nat)) ((0 : Nat) + Int.toNat i * 1) ∧ True) ∧ ((64 : Nat) ≤ Array.size nw ∧ True) ∧ ((64 : Nat) ≤ Array.size ws ∧ True) ∧ (((0 : Int) ≤ i ∧ i < (32 : Int)) ∧ True) ∧ (IsInt IntKind.i64 (Array.extract ws (0 : Nat) (64 : Nat)) ((0 : Nat) + Int.toNat i * 1) ∧ True) ∧ (RbOk (Array.extract nw (0 : Nat) (64 : Nat)) ∧ True) ∧ (Array.size (voidW (Array.extract nw (0 : Nat) (64 : Nat)) (ari BinOp.add IntKind.i64 (ari BinOp.add IntKind.i64 i (ari BinOp.mul IntKind.i64 (256 : Int) (intAt (Array.extract ws (0 : Nat) (64 : Nat)) ((0 : Nat) + Int.toNat i * 1)))) (1 : Int))) = (64 : Nat) ∧ (0 : Nat) + Array.size (voidW (Array.extract nw (0 : Nat) (64 : Nat)) (ari BinOp.add IntKind.i64 (ari BinOp.add IntKind.i64 i (ari BinOp.mul IntKind.i64 (256 : Int) (intAt (Array.extract ws (0 : Nat) (64 : Nat)) ((0 : Nat) + Int.toNat i * 1)))) (1 : Int))) ≤ Array.size nw ∧ True) ∧ QS (ari BinOp.add IntKind.i64 i (1 : Int)) (putAt nw (0 : Nat) (Array.toList (voidW (Array.extract nw (0 : Nat) (64 : Nat)) (ari BinOp.add IntKind.i64 (ari BinOp.add IntKind.i64 i (ari BinOp.mul IntKind.i64 (256 : Int) (intAt (Array.extract ws (0 : Nat) (64 : Nat)) ((0 : Nat) + Int.toNat i * 1)))) (1 : Int))))) zz (1 : Nat) #[Value.int IntKind.i64 (ari BinOp.add IntKind.i64 (ari BinOp.add IntKind.i64 i (ari BinOp.mul IntKind.i64 (256 : Int) (intAt (Array.extract ws (0 : Nat) (64 : Nat)) ((0 : Nat) + Int.toNat i * 1)))) (1 : Int))] ∧ CallKind.normal = CallKind.normal ∧ TodoOk (ren 0 [(0, 0), (1, 1), (2, 2), (3, 3), (4, 6)]) qZ_d0 qZ_d0 ∧ (1 : Nat) = (1 : Nat) ∧ ari BinOp.add IntKind.i64 i (1 : Int) = ari BinOp.add IntKind.i64 i (1 : Int) ∧ (43 : TypeId) = (43 : TypeId) ∧ ws = ws ∧ (43 : TypeId) = (43 : TypeId) ∧ zz = zz ∧ (43 : TypeId) = (43 : TypeId) ∧ putAt nw (0 : Nat) (Array.toList (voidW (Array.extract nw (0 : Nat) (64 : Nat)) (ari BinOp.add IntKind.i64 (ari BinOp.add IntKind.i64 i (ari BinOp.mul IntKind.i64 (256 : Int) (intAt (Array.extract ws (0 : Nat) (64 : Nat)) ((0 : Nat) + Int.toNat i * 1)))) (1 : Int)))) = putAt nw (0 : Nat) (Array.toList (voidW (Array.extract nw (0 : Nat) (64 : Nat)) (ari BinOp.add IntKind.i64 (ari BinOp.add IntKind.i64 i (ari BinOp.mul IntKind.i64 (256 : Int) (intAt (Array.extract ws (0 : Nat) (64 : Nat)) ((0 : Nat) + Int.toNat i * 1)))) (1 : Int)))) ∧ (80 : TypeId) = (80 : TypeId) ∧ gs = gs ∧ (3 : TypeId) = (3 : Nat) ∧ #[Value.int IntKind.i64 (ari BinOp.add IntKind.i64 (ari BinOp.add IntKind.i64 i (ari BinOp.mul IntKind.i64 (256 : Int) (intAt (Array.extract ws (0 : Nat) (64 : Nat)) ((0 : Nat) + Int.toNat i * 1)))) (1 : Int))] = #[Value.int IntKind.i64 (ari BinOp.add IntKind.i64 (ari BinOp.add IntKind.i64 i (ari BinOp.mul IntKind.i64 (256 : Int) (intAt (Array.extract ws (0 : Nat) (64 : Nat)) ((0 : Nat) + Int.toNat i * 1)))) (1 : Int))] ∧ True) ∧ (boolAt gs ((0 : Nat) + Int.toNat i * 1) = false → QZ (ari BinOp.add IntKind.i64 i (1 : Int)) nw zz ∧ CallKind.normal = CallKind.normal ∧ TodoOk (ren 0 [(0, 0), (1, 1), (2, 2), (3, 3)]) qZ_d0 qZ_d0 ∧ Value.slice none (0 : Nat) (0 : Nat) = Value.slice none (0 : Nat) (0 : Nat) ∧ ari BinOp.add IntKind.i64 i (1 : Int) = ari BinOp.add IntKind.i64 i (1 : Int) ∧ (43 : TypeId) = (43 : TypeId) ∧ ws = ws ∧ (43 : TypeId) = (43 : TypeId) ∧ zz = zz ∧ (43 : TypeId) = (43 : TypeId) ∧ nw = nw ∧ (80 : TypeId) = (80 : TypeId) ∧ gs = gs ∧ True)) ∧ (decide (i < (32 : Int)) = false → (Array.size nw = (224 : Nat) ∧ True) ∧ (Array.size nw = (224 : Nat) ∧ Array.size nw = Array.size zz ∧ True) ∧ (Array.size nw = (224 : Nat) ∧ True) ∧ False)) := by kernel_rfl
theorem rs1 (ws gs : Array Value) (i : Int) (nw zz : Array Value) (k : Nat) (cs : Array Value) (o : Array Value) (kF : Nat) (csF : Array Value) (QS : Int → Array Value → Array Value → Nat → Array Value → Prop) : (stepT EGr.go (run EGr 1000) 0 (qS_F ws gs i nw zz k cs) (qS_M ws gs i nw zz k cs)).vc (rOkW o kF csF) (qS_n ws gs QS) =
    ((decide (i < (32 : Int)) = true → (((0 : Int) ≤ i ∧ i < (32 : Int)) ∧ True) ∧ (IsBool gs ((0 : Nat) + Int.toNat i * 1) ∧ True) ∧ (boolAt gs ((0 : Nat) + Int.toNat i * 1) = true → ((64 : Nat) ≤ Array.size ws ∧ True) ∧ (((0 : Int) ≤ i ∧ i < (32 : Int)) ∧ True) ∧ (IsInt IntKind.i64 (Array.extract ws (0 : Nat) (64 : Nat)) ((0 : Nat) + Int.toNat i * 1) ∧ True) ∧ (((k + 1) * 8 ≤ (140737488355328 : Nat) ∧ k + 1 ≤ (140737488355328 : Nat)) ∧ k * 1 = Array.size cs ∧ True) ∧ ((64 : Nat) ≤ Array.size nw ∧ True) ∧ ((64 : Nat) ≤ Array.size ws ∧ True) ∧ (((0 : Int) ≤ i ∧ i < (32 : Int)) ∧ True) ∧ (IsInt IntKind.i64 (Array.extract ws (0 : Nat) (64 : Nat)) ((0 : Nat) + Int.toNat i * 1) ∧ True) ∧ (RbOk (Array.extract nw (0 : Nat) (64 : Nat)) ∧ True) ∧ (Array.size (voidW (Array.extract nw (0 : Nat) (64 : Nat)) (ari BinOp.add IntKind.i64 (ari BinOp.add IntKind.i64 i (ari BinOp.mul IntKind.i64 (256 : Int) (intAt (Array.extract ws (0 : Nat) (64 : Nat)) ((0 : Nat) + Int.toNat i * 1)))) (1 : Int))) = (64 : Nat) ∧ (0 : Nat) + Array.size (voidW (Array.extract nw (0 : Nat) (64 : Nat)) (ari BinOp.add IntKind.i64 (ari BinOp.add IntKind.i64 i (ari BinOp.mul IntKind.i64 (256 : Int) (intAt (Array.extract ws (0 : Nat) (64 : Nat)) ((0 : Nat) + Int.toNat i * 1)))) (1 : Int))) ≤ Array.size nw ∧ True) ∧ QS (ari BinOp.add IntKind.i64 i (1 : Int)) (putAt nw (0 : Nat) (Array.toList (voidW (Array.extract nw (0 : Nat) (64 : Nat)) (ari BinOp.add IntKind.i64 (ari BinOp.add IntKind.i64 i (ari BinOp.mul IntKind.i64 (256 : Int) (intAt (Array.extract ws (0 : Nat) (64 : Nat)) ((0 : Nat) + Int.toNat i * 1)))) (1 : Int))))) zz (k + 1) (cs ++ #[Value.int IntKind.i64 (ari BinOp.add IntKind.i64 (ari BinOp.add IntKind.i64 i (ari BinOp.mul IntKind.i64 (256 : Int) (intAt (Array.extract ws (0 : Nat) (64 : Nat)) ((0 : Nat) + Int.toNat i * 1)))) (1 : Int))]) ∧ CallKind.normal = CallKind.normal ∧ TodoOk (ren 0 [(0, 0), (1, 1), (2, 2), (3, 3), (4, 7)]) qZ_d0 qZ_d0 ∧ k + 1 = k + 1 ∧ ari BinOp.add IntKind.i64 i (1 : Int) = ari BinOp.add IntKind.i64 i (1 : Int) ∧ (43 : TypeId) = (43 : TypeId) ∧ ws = ws ∧ (43 : TypeId) = (43 : TypeId) ∧ zz = zz ∧ (43 : TypeId) = (43 : TypeId) ∧ putAt nw (0 : Nat) (Array.toList (voidW (Array.extract nw (0 : Nat) (64 : Nat)) (ari BinOp.add IntKind.i64 (ari BinOp.add IntKind.i64 i (ari BinOp.mul IntKind.i64 (256 : Int) (intAt (Array.extract ws (0 : Nat) (64 : Nat)) ((0 : Nat) + Int.toNat i * 1)))) (1 : Int)))) = putAt nw (0 : Nat) (Array.toList (voidW (Array.extract nw (0 : Nat) (64 : Nat)) (ari BinOp.add IntKind.i64 (ari BinOp.add IntKind.i64 i (ari BinOp.mul IntKind.i64 (256 : Int) (intAt (Array.extract ws (0 : Nat) (64 : Nat)) ((0 : Nat) + Int.toNat i * 1)))) (1 : Int)))) ∧ (80 : TypeId) = (80 : TypeId) ∧ gs = gs ∧ (3 : TypeId) = (3 : Nat) ∧ cs ++ #[Value.int IntKind.i64 (ari BinOp.add IntKind.i64 (ari BinOp.add IntKind.i64 i (ari BinOp.mul IntKind.i64 (256 : Int) (intAt (Array.extract ws (0 : Nat) (64 : Nat)) ((0 : Nat) + Int.toNat i * 1)))) (1 : Int))] = cs ++ #[Value.int IntKind.i64 (ari BinOp.add IntKind.i64 (ari BinOp.add IntKind.i64 i (ari BinOp.mul IntKind.i64 (256 : Int) (intAt (Array.extract ws (0 : Nat) (64 : Nat)) ((0 : Nat) + Int.toNat i * 1)))) (1 : Int))] ∧ True) ∧ (boolAt gs ((0 : Nat) + Int.toNat i * 1) = false → QS (ari BinOp.add IntKind.i64 i (1 : Int)) nw zz k cs ∧ CallKind.normal = CallKind.normal ∧ TodoOk (ren 0 [(0, 0), (1, 1), (2, 2), (3, 3), (4, 4)]) qZ_d0 qZ_d0 ∧ k = k ∧ ari BinOp.add IntKind.i64 i (1 : Int) = ari BinOp.add IntKind.i64 i (1 : Int) ∧ (43 : TypeId) = (43 : TypeId) ∧ ws = ws ∧ (43 : TypeId) = (43 : TypeId) ∧ zz = zz ∧ (43 : TypeId) = (43 : TypeId) ∧ nw = nw ∧ (80 : TypeId) = (80 : TypeId) ∧ gs = gs ∧ (3 : TypeId) = (3 : TypeId) ∧ cs = cs ∧ True)) ∧ (decide (i < (32 : Int)) = false → (Array.size nw = (224 : Nat) ∧ True) ∧ (Array.size nw = (224 : Nat) ∧ Array.size nw = Array.size zz ∧ True) ∧ (Array.size nw = (224 : Nat) ∧ True) ∧ nw = o ∧ k = kF ∧ cs = csF ∧ (3 : TypeId) = (3 : TypeId) ∧ (0 : Int) = (0 : Int))) := by kernel_rfl
end Go.Proofs.Ytnjmockpdmchcaa
/- Of token: the document's Those, Clear: contracts. No condition. -/
namespace Go.Proofs.Ytnjmockpdmchcaa
set_option maxRecDepth 100000
set_option linter.unusedSimpArgs false
set_option linter.unusedVariables false
section
variable {ts ws : Array Value} {r t : Int}
theorem thoseW_succ (i : Nat) : thoseW ws r t (i + 1) = if thP ws r t i = true then thoseW ws r t i ++ [nameI i (genW (rbT ws) i)] else thoseW ws r t i := rfl
theorem thP_eq (ws : Array Value) (r t : Int) (i : Nat) : thP ws r t i = ((isW (rbT ws) i == 1) && ((decide (r < 0) || (wC ws i 0 == r)) && (decide (t < 0) || (wC ws i 2 == t)))) := rfl
theorem thoseW_le : ∀ n, (thoseW ws r t n).length ≤ n
  | 0 => Nat.le_refl _
  | n + 1 => by
    have := thoseW_le n
    rw [thoseW_succ]
    split
    · rw [List.length_append]; show _ + 1 ≤ _; omega
    · omega
theorem thoseW_pre {i j : Nat} (h : i ≤ j) (e : thoseW ws r t j = []) : thoseW ws r t i = [] := by
  induction j with
  | zero =>
    obtain rfl : i = 0 := by omega
    exact e
  | succ j ih =>
    by_cases c : i = j + 1
    · rw [c]; exact e
    · refine ih (by omega) ?_
      rw [thoseW_succ] at e
      split at e
      · simp at e
      · exact e
theorem i64s_size (l : List Int) : (i64s l).size = l.length := by unfold i64s; simp
theorem i64s_app (l : List Int) (x : Int) : i64s l ++ #[Value.int .i64 x] = i64s (l ++ [x]) := by unfold i64s; simp
theorem i64s_one (x : Int) : #[Value.int .i64 x] = i64s [x] := rfl
theorem i64s_at {l : List Int} {i : Nat} (hi : i < l.length) : (i64s l)[i]? = some (.int .i64 (l.getD i 0)) := by
  unfold i64s
  rw [List.getElem?_toArray, List.getElem?_map, List.getD_eq_getElem?_getD, List.getElem?_eq_getElem hi]
  rfl
theorem EGt_ok : EnvOk EGt := EnvOk.with E0_ok _ _ conD0_ok
theorem hZS9_good {A : SV → SMem → Prop} {QZ : Int → Prop} {QS : Int → Nat → Array Value → Prop} {fs : List SFr} {m : SMem} (hz : ∀ i, QZ i → Good Try.prog A 0 (hZ9_F ws r t i) (hZ9_M ws r t i)) (hs : ∀ i k cs, QS i k cs → Good Try.prog A 0 (hS9_F ws r t i k cs) (hS9_M ws r t i k cs)) (hb : hZS9 ws r t QZ QS fs m) : Good Try.prog A 0 fs m := by
  unfold hZS9 at hb
  split at hb
  · split at hb
    · exact hS9_good hs hb
    · exact hZ9_good hz hb
  · exact hb.elim
theorem hS9_ok (hw : WsOk ws) : ∀ (k i : Nat), i + k = 32 → Good Try.prog (freshA (thoseW ws r t 32).length (i64s (thoseW ws r t 32)) 3) 0 (hS9_F ws r t (i : Int) (thoseW ws r t i).length (i64s (thoseW ws r t i))) (hS9_M ws r t (i : Int) (thoseW ws r t i).length (i64s (thoseW ws r t i))) := by
  have hs := hw.sz
  intro k
  induction k with
  | zero =>
    intro i hi
    obtain rfl : i = 32 := by omega
    refine past_vc EGt_ok 1000 (th3 ws r t ((32 : Nat) : Int) _ _ (thoseW ws r t 32).length (i64s (thoseW ws r t 32)) (fun _ _ _ => False)) ?_ (fun _ _ h => h) (fun fs m hb => hS9_good (fun _ _ _ h => h.elim) hb)
    have d : decide (((32 : Nat) : Int) < 32) = false := rfl
    simp only [d, true_implies, Bool.true_eq_false, Bool.false_eq_true, false_implies, and_true, true_and]
  | succ k ih =>
    intro i hi
    refine past_vc EGt_ok 1000 (th3 ws r t (i : Int) _ _ (thoseW ws r t 32).length (i64s (thoseW ws r t 32)) (fun i' k' c' => i' = ((i + 1 : Nat) : Int) ∧ k' = (thoseW ws r t (i + 1)).length ∧ c' = i64s (thoseW ws r t (i + 1)))) ?_ (fun _ _ h => h) (fun fs m hb => hS9_good (fun i' k' c' ⟨e1, e2, e3⟩ => by rw [e1, e2, e3]; exact ih (i + 1) (by omega)) hb)
    have d : decide ((i : Int) < 32) = true := decide_eq_true (by omega)
    have ei : ari .add .i64 (i : Int) 1 = ((i + 1 : Nat) : Int) := by rw [ari_add, i64_in' (by omega) (by omega)]; omega
    have hi32 : i < 32 := by omega
    obtain ⟨q1, q2⟩ := is_cell hw hi32
    have x0 := hw.c0 i hi32
    have x2 := hw.c2 i hi32
    have g1 : IsInt .i64 (ws.extract 0 64) i := hw.rb.c i (by omega)
    have g2 : intAt (ws.extract 0 64) i = genW (rbT ws) i := rfl
    have hof := ofW_run hi32 (hw.rb.rg i hi32)
    have hx0 : 0 ≤ (i : Int) := by omega
    have hx1 : (i : Int) < 32 := by omega
    have w0 : intAt ws (64 + i * 5) = wC ws i 0 := rfl
    have w2 : intAt ws (64 + i * 5 + 2) = wC ws i 2 := rfl
    have hle : 64 ≤ ws.size := by omega
    have hl : (thoseW ws r t i).length ≤ i := thoseW_le i
    have hl1 : (((thoseW ws r t i).length + 1) * 8 ≤ 140737488355328 ∧ (thoseW ws r t i).length + 1 ≤ 140737488355328) := ⟨by omega, by omega⟩
    simp only [Int.toNat_natCast, Nat.mul_one, Nat.zero_add, d, ei, q1, q2, x0, x2, g1, g2, hof, w0, w2, hx0, hx1, hle, hl1, i64s_size, i64s_app, beqT, beqF, decide_true, true_implies, and_true, true_and, Bool.true_eq_false, false_implies, hZ9_d0_ok, hS9_d0_ok]
    cases c0 : (isW (rbT ws) i == 1) <;> cases cr : decide (r < 0) <;> cases c1 : (wC ws i 0 == r) <;> cases ct : decide (t < 0) <;> cases c2 : (wC ws i 2 == t)
    all_goals
      have hp := thP_eq ws r t i
      rw [c0, cr, c1, ct, c2] at hp
      simp only [Bool.true_and, Bool.false_and, Bool.and_true, Bool.and_false, Bool.true_or, Bool.or_true, Bool.false_or, Bool.or_false] at hp
      simp only [hp, thoseW_succ, if_true, if_false, List.length_append, List.length_cons, List.length_nil, Nat.zero_add, Bool.not_true, Bool.not_false, true_implies, Bool.true_eq_false, Bool.false_eq_true, false_implies, and_true, true_and]
theorem hZ9_s (hw : WsOk ws) (hne : thoseW ws r t 32 ≠ []) : ∀ (k i : Nat), i + k = 32 → thoseW ws r t i = [] → Good Try.prog (freshA (thoseW ws r t 32).length (i64s (thoseW ws r t 32)) 3) 0 (hZ9_F ws r t (i : Int)) (hZ9_M ws r t (i : Int)) := by
  have hs := hw.sz
  intro k
  induction k with
  | zero =>
    intro i hi he
    obtain rfl : i = 32 := by omega
    exact absurd he hne
  | succ k ih =>
    intro i hi he
    refine past_vc EGt_ok 1000 (th2 ws r t (i : Int) (thoseW ws r t 32).length (i64s (thoseW ws r t 32)) (fun i' => i' = ((i + 1 : Nat) : Int) ∧ thoseW ws r t (i + 1) = []) (fun i' k' c' => i' = ((i + 1 : Nat) : Int) ∧ k' = (thoseW ws r t (i + 1)).length ∧ c' = i64s (thoseW ws r t (i + 1)))) ?_ (fun _ _ h => h) (fun fs m hb => hZS9_good (fun i' ⟨e1, e2⟩ => by rw [e1]; exact ih (i + 1) (by omega) e2) (fun i' k' c' ⟨e1, e2, e3⟩ => by rw [e1, e2, e3]; exact hS9_ok hw k (i + 1) (by omega)) hb)
    have d : decide ((i : Int) < 32) = true := decide_eq_true (by omega)
    have ei : ari .add .i64 (i : Int) 1 = ((i + 1 : Nat) : Int) := by rw [ari_add, i64_in' (by omega) (by omega)]; omega
    have hi32 : i < 32 := by omega
    obtain ⟨q1, q2⟩ := is_cell hw hi32
    have x0 := hw.c0 i hi32
    have x2 := hw.c2 i hi32
    have g1 : IsInt .i64 (ws.extract 0 64) i := hw.rb.c i (by omega)
    have g2 : intAt (ws.extract 0 64) i = genW (rbT ws) i := rfl
    have hof := ofW_run hi32 (hw.rb.rg i hi32)
    have hx0 : 0 ≤ (i : Int) := by omega
    have hx1 : (i : Int) < 32 := by omega
    have w0 : intAt ws (64 + i * 5) = wC ws i 0 := rfl
    have w2 : intAt ws (64 + i * 5 + 2) = wC ws i 2 := rfl
    have hle : 64 ≤ ws.size := by omega
    simp only [Int.toNat_natCast, Nat.mul_one, Nat.zero_add, d, ei, q1, q2, x0, x2, g1, g2, hof, w0, w2, hx0, hx1, hle, i64s_one, beqT, beqF, decide_true, true_implies, and_true, true_and, Bool.true_eq_false, false_implies, hZ9_d0_ok, hS9_d0_ok]
    cases c0 : (isW (rbT ws) i == 1) <;> cases cr : decide (r < 0) <;> cases c1 : (wC ws i 0 == r) <;> cases ct : decide (t < 0) <;> cases c2 : (wC ws i 2 == t)
    all_goals
      have hp := thP_eq ws r t i
      rw [c0, cr, c1, ct, c2] at hp
      simp only [Bool.true_and, Bool.false_and, Bool.and_true, Bool.and_false, Bool.true_or, Bool.or_true, Bool.false_or, Bool.or_false] at hp
      simp only [hp, he, thoseW_succ, if_true, if_false, List.nil_append, List.length_cons, List.length_nil, Nat.zero_add, Bool.not_true, Bool.not_false, true_implies, Bool.true_eq_false, Bool.false_eq_true, false_implies, and_true, true_and]
theorem hZ9_nn (hw : WsOk ws) (hne : thoseW ws r t 32 = []) : ∀ (k i : Nat), i + k = 32 → Good Try.prog nilI9 0 (hZ9_F ws r t (i : Int)) (hZ9_M ws r t (i : Int)) := by
  have hs := hw.sz
  intro k
  induction k with
  | zero =>
    intro i hi
    obtain rfl : i = 32 := by omega
    refine past_vc EGt_ok 1000 (th1 ws r t ((32 : Nat) : Int) (fun _ => False) (fun _ _ _ => False)) ?_ (fun _ _ h => h) (fun fs m hb => hZS9_good (fun _ h => h.elim) (fun _ _ _ h => h.elim) hb)
    have d : decide (((32 : Nat) : Int) < 32) = false := rfl
    simp only [d, true_implies, Bool.true_eq_false, Bool.false_eq_true, false_implies, and_true, true_and]
  | succ k ih =>
    intro i hi
    refine past_vc EGt_ok 1000 (th1 ws r t (i : Int) (fun i' => i' = ((i + 1 : Nat) : Int)) (fun i' k' c' => False)) ?_ (fun _ _ h => h) (fun fs m hb => hZS9_good (fun i' e1 => by rw [e1]; exact ih (i + 1) (by omega)) (fun i' k' c' h => h.elim) hb)
    have d : decide ((i : Int) < 32) = true := decide_eq_true (by omega)
    have ei : ari .add .i64 (i : Int) 1 = ((i + 1 : Nat) : Int) := by rw [ari_add, i64_in' (by omega) (by omega)]; omega
    have hi32 : i < 32 := by omega
    have h1 := thoseW_pre (i := i + 1) (by omega) hne
    rw [thoseW_succ] at h1
    have hP : thP ws r t i = false := by
      cases c : thP ws r t i with
      | false => rfl
      | true => rw [c, if_pos rfl] at h1; simp at h1
    obtain ⟨q1, q2⟩ := is_cell hw hi32
    have x0 := hw.c0 i hi32
    have x2 := hw.c2 i hi32
    have hx0 : 0 ≤ (i : Int) := by omega
    have hx1 : (i : Int) < 32 := by omega
    have w0 : intAt ws (64 + i * 5) = wC ws i 0 := rfl
    have w2 : intAt ws (64 + i * 5 + 2) = wC ws i 2 := rfl
    simp only [Int.toNat_natCast, Nat.mul_one, Nat.zero_add, d, ei, q1, q2, x0, x2, w0, w2, hx0, hx1, beqT, beqF, decide_true, true_implies, and_true, true_and, Bool.true_eq_false, false_implies, hZ9_d0_ok, hS9_d0_ok]
    cases c0 : (isW (rbT ws) i == 1) <;> cases cr : decide (r < 0) <;> cases c1 : (wC ws i 0 == r) <;> cases ct : decide (t < 0) <;> cases c2 : (wC ws i 2 == t)
    all_goals
      have hp := thP_eq ws r t i
      rw [c0, cr, c1, ct, c2] at hp
      simp only [hP, Bool.true_and, Bool.false_and, Bool.and_true, Bool.and_false, Bool.true_or, Bool.or_true, Bool.false_or, Bool.or_false] at hp
      first
        | exact absurd hp (by decide)
        | simp only [Bool.not_true, Bool.not_false, true_implies, Bool.true_eq_false, Bool.false_eq_true, false_implies, and_true, true_and]
theorem those_con (r t : Int) (m : SMem) : Con E0 18 [wsS ws, i64 (.o r), i64 (.o t)] m (.need [WsOk ws] (rowI (thoseW ws r t 32) m)) := by
  refine Con.asked fun hq => ?_
  have hw : WsOk ws := hq _ (by simp)
  have hs := hw.sz
  refine Con.two (fun h => ?_) (fun h => ?_)
  · have he : thoseW ws r t 32 = [] := List.eq_nil_of_length_eq_zero (of_decide_eq_true h)
    refine (show Con E0 18 [wsS ws, i64 (.o r), i64 (.o t)] m (needs [] _) from Con.pure E0_ok (by kernel_rfl : E0.fn 18 = some Try.f18) (by kernel_rfl : Try.f18.body = some (Try.f18.body.getD .skip)) (by kernel_rfl) (by kernel_rfl) fun hq => ?_)
    refine (run_vc EGt_ok 1000 (th0_vc ws r t (fun i => i = ((0 : Nat) : Int))) ?_ (fun s m h => h.elim) fun fs m h => th0_go (A := nilI9) (fun i e => by rw [e]; exact hZ9_nn hw he 32 0 (by omega)) h).mono ?_
    · simp only [and_true, true_and, hZ9_d0_ok]
      repeat' first | exact rfl | exact trivial | apply And.intro
    · intro s m' hs
      unfold nilI9 at hs
      split at hs
      · rfl
      · exact hs.elim
  · have he : thoseW ws r t 32 ≠ [] := fun e => by
      have := of_decide_eq_false h
      rw [e] at this
      exact this rfl
    refine (show Con E0 18 [wsS ws, i64 (.o r), i64 (.o t)] m (needs [] _) from Con.fresh E0_ok (by kernel_rfl : E0.fn 18 = some Try.f18) (by kernel_rfl : Try.f18.body = some (Try.f18.body.getD .skip)) (by kernel_rfl) rfl fun _ => ?_)
    refine Good.retX ((run_vc EGt_ok 1000 (th0_vc ws r t (fun i => i = ((0 : Nat) : Int))) ?_ (fun s m h => h.elim) fun fs m h => th0_go (A := freshA (thoseW ws r t 32).length (i64s (thoseW ws r t 32)) 3) (fun i e => by rw [e]; exact hZ9_s hw he 32 0 (by omega) rfl) h).mono fun s m h => ?_)
    · simp only [and_true, true_and, hZ9_d0_ok]
      repeat' first | exact rfl | exact trivial | apply And.intro
    · unfold freshA at h
      split at h
      · exact ⟨_, h⟩
      · exact h.elim
theorem void_rb {rb : Array Value} (hr : RbOk rb) (x : Int) : RbOk (voidW rb x) := by
  rcases slotW_cases rb x with e | ⟨j, e, hj, _⟩
  · unfold voidW
    rw [e]
    exact hr
  · unfold voidW
    rw [e, if_neg (by omega)]
    show RbOk (voidWS rb j)
    have hri := hr.rg j hj
    have r0 := rb_set (k := 32 + j) (x := 0) hr (by omega) (fun h => by omega)
    unfold voidWS
    split
    · exact rb_set r0 (by omega) (fun h => by omega)
    · exact rb_set r0 (by omega) (fun _ => by omega)
theorem iss_rb {rb : Array Value} (hr : RbOk rb) : RbOk (issW rb) := by
  unfold issW
  split
  · rename_i i e
    have hi : i < 32 := by
      have key : ∀ (k j : Nat), freeF rb k j = some i → j ≤ i ∧ i < j + k := by
        intro k
        induction k with
        | zero => intro j h; cases h
        | succ k ih =>
          intro j h
          rw [freeF_succ] at h
          split at h
          · cases h; omega
          · have := ih (j + 1) h; omega
      have := key 32 0 e
      omega
    exact rb_set hr (by omega) (fun h => by omega)
  · exact hr
theorem put_rb {rb : Array Value} (hs : ws.size = 224) (hz : rb.size = 64) : (putAt ws 0 rb.toList).size = 224 ∧ rbT (putAt ws 0 rb.toList) = rb ∧ ∀ k, 64 ≤ k → (putAt ws 0 rb.toList)[k]? = ws[k]? := by
  have hl : rb.toList.length = 64 := by simpa using hz
  have h1 : (putAt ws 0 rb.toList).size = 224 := by rw [putAt_size (by omega)]; exact hs
  refine ⟨h1, ?_, fun k hk => putAt_out (by omega) (by omega)⟩
  apply Array.ext_getElem?
  intro j
  unfold rbT
  by_cases c : j < 64
  · rw [ext_get (by omega) (by omega), putAt_in (by omega) (by omega) (by omega), Array.getElem?_toList]
    congr 1
    omega
  · rw [Array.getElem?_eq_none (by rw [ext_size (by omega)]; omega), Array.getElem?_eq_none (by omega)]
theorem ws_same {vs : Array Value} (h : WsOk ws) (hs : vs.size = 224) (hb : RbOk (rbT vs)) (hc : ∀ k, 64 ≤ k → vs[k]? = ws[k]?) : WsOk vs := by
  refine ⟨hs, hb, fun i hi => ?_, fun i hi => ?_, fun i hi => ?_, fun i hi => ?_, fun i hi => ?_⟩
  · have := h.c0 i hi
    unfold IsInt intAt at *
    rw [hc _ (by omega)]; exact this
  · have := h.c1 i hi
    unfold IsInt intAt at *
    rw [hc _ (by omega)]; exact this
  · have := h.c2 i hi
    unfold IsInt intAt at *
    rw [hc _ (by omega)]; exact this
  · have := h.c3 i hi
    unfold IsBool boolAt at *
    rw [hc _ (by omega)]; exact this
  · have := h.c4 i hi
    unfold IsInt intAt at *
    rw [hc _ (by omega)]; exact this
theorem wC_same {vs : Array Value} (hc : ∀ k, 64 ≤ k → vs[k]? = ws[k]?) (i j : Nat) : wC vs i j = wC ws i j := by
  unfold wC intAt
  rw [hc _ (by omega)]
theorem wM_same {vs : Array Value} (hc : ∀ k, 64 ≤ k → vs[k]? = ws[k]?) (i : Nat) : wM vs i = wM ws i := by
  unfold wM boolAt
  rw [hc _ (by omega)]
def vdW (ws : Array Value) (x : Int) : Array Value := putAt ws 0 (voidW (rbT ws) x).toList
theorem vd_facts (h : WsOk ws) (x : Int) : WsOk (vdW ws x) ∧ rbT (vdW ws x) = voidW (rbT ws) x ∧ ∀ k, 64 ≤ k → (vdW ws x)[k]? = ws[k]? := by
  have hv := void_rb h.rb x
  obtain ⟨a1, a2, a3⟩ := put_rb (rb := voidW (rbT ws) x) h.sz hv.sz
  have e2 : rbT (vdW ws x) = voidW (rbT ws) x := a2
  exact ⟨ws_same h a1 (by rw [e2]; exact hv) a3, e2, a3⟩
def outW (ws : Array Value) (l : List Int) : Nat → Array Value
  | 0 => ws
  | i + 1 => vdW (outW ws l i) (l.getD i 0)
theorem outW_ok (h : WsOk ws) (l : List Int) : ∀ i, WsOk (outW ws l i) ∧ ∀ k, 64 ≤ k → (outW ws l i)[k]? = ws[k]?
  | 0 => ⟨h, fun _ _ => rfl⟩
  | i + 1 => by
    obtain ⟨a, b⟩ := outW_ok h l i
    obtain ⟨c, _, d⟩ := vd_facts a (l.getD i 0)
    exact ⟨c, fun k hk => (d k hk).trans (b k hk)⟩
def clearW (ws : Array Value) (r : Int) : Array Value := outW ws (thoseW ws r (-1) 32) (thoseW ws r (-1) 32).length
theorem conD1_ok : ∀ g l m t, conD1 g l m = some t → Con E0 g l m t := by
  intro g l m t h
  unfold conD1 at h
  split at h
  · rename_i ws x y; cases h
    refine Con.asked fun hq => Con.args (l' := [wsS ws, i64 (.o x.den), i64 (.o y.den)]) (fun R vs ha => by
      match vs, ha with
      | [u, v, w], ha => exact ⟨ha.1, ha.2.1, ha.2.2.1, trivial⟩) ?_
    intro A hs
    exact rreads_con x.den y.den m A ⟨fun p hp => hq p hp, hs⟩
  · rename_i ws x y; cases h
    refine Con.asked fun hq => Con.args (l' := [wsS ws, i64 (.o x.den), i64 (.o y.den)]) (fun R vs ha => by
      match vs, ha with
      | [u, v, w], ha => exact ⟨ha.1, ha.2.1, ha.2.2.1, trivial⟩) ?_
    intro A hs
    exact rwrites_con x.den y.den m A ⟨fun p hp => hq p hp, hs⟩
  · rename_i ws x; cases h
    refine Con.asked fun hq => Con.args (l' := [wsS ws, i64 (.o x.den)]) (fun R vs ha => by
      match vs, ha with
      | [u, v], ha => exact ⟨ha.1, ha.2.1, trivial⟩) ?_
    intro A hs
    exact rget_con x.den m A ⟨fun p hp => hq p hp, hs⟩
  · rename_i ws x y; cases h
    refine Con.args (l' := [wsS ws, i64 (.o x.den), i64 (.o y.den)]) (fun R vs ha => by
      match vs, ha with
      | [u, v, w], ha => exact ⟨ha.1, ha.2.1, ha.2.2.1, trivial⟩) ?_
    exact those_con x.den y.den m
  · exact conD0_ok _ _ _ _ h
theorem EG_ok : EnvOk EG := EnvOk.with E0_ok _ _ conD1_ok
theorem EGv_ok : EnvOk EGv := EnvOk.with E0_ok _ _ conD1_ok
theorem EGr_ok : EnvOk EGr := EnvOk.with E0_ok _ _ conD0_ok
theorem gC_ok (hw : WsOk ws) {l : List Int} (hn : l.length ≤ 32) {zz : Array Value} (hz : zz.size = 224) : ∀ (k i : Nat), i + k + 1 = l.length → Good Try.prog (retOk 0 [] (wsS (outW ws l l.length)) e0M) 0 (gC_F ws l.length (i64s l) (i : Int) (outW ws l i) zz) (gC_M ws l.length (i64s l) (i : Int) (outW ws l i) zz) := by
  intro k
  induction k with
  | zero =>
    intro i hi
    refine past_vc EG_ok 1000 (gc1 ws l.length (i64s l) (i : Int) (outW ws l i) zz (outW ws l l.length) (fun _ _ _ => False)) ?_ (fun _ _ h => h) (fun fs m hb => gC_good (fun _ _ _ h => h.elim) hb)
    obtain ⟨o1, _⟩ := outW_ok hw l i
    obtain ⟨v1, v2, _⟩ := vd_facts o1 (l.getD i 0)
    have ei : ari .add .i64 (i : Int) 1 = ((i + 1 : Nat) : Int) := by
      rw [ari_add, i64_in' (by omega) (by omega)]; omega
    have d : decide (((i + 1 : Nat) : Int) < (l.length : Int)) = false := decide_eq_false (by omega)
    have g1 : IsInt .i64 (i64s l) i := isI_of (i64s_at (by omega))
    have g2 : intAt (i64s l) i = l.getD i 0 := intAt_of (i64s_at (by omega))
    have hx0 : 0 ≤ (i : Int) := by omega
    have hx1 : (i : Int) < (l.length : Int) := by omega
    have hrb : RbOk ((outW ws l i).extract 0 64) := o1.rb
    have hle : 64 ≤ (outW ws l i).size := by rw [o1.sz]; decide
    have hvs : (voidW ((outW ws l i).extract 0 64) (l.getD i 0)).size = 64 := (void_rb o1.rb _).sz
    have e1 : putAt (outW ws l i) 0 (voidW ((outW ws l i).extract 0 64) (l.getD i 0)).toList = vdW (outW ws l i) (l.getD i 0) := rfl
    have e2 : outW ws l l.length = vdW (outW ws l i) (l.getD i 0) := by rw [← hi]; rfl
    have hv := v1.sz
    simp only [Int.toNat_natCast, Nat.mul_one, Nat.zero_add, ei, d, g1, g2, hx0, hx1, hrb, hle, hvs, e1, e2, hv, hz, true_implies, and_true, true_and, Bool.false_eq_true, false_implies, gC_d0_ok]
  | succ k ih =>
    intro i hi
    refine past_vc EG_ok 1000 (gc1 ws l.length (i64s l) (i : Int) (outW ws l i) zz (outW ws l l.length) (fun i' w' z' => i' = ((i + 1 : Nat) : Int) ∧ w' = outW ws l (i + 1) ∧ z' = zz)) ?_ (fun _ _ h => h) (fun fs m hb => gC_good (fun i' w' z' ⟨e1, e2, e3⟩ => by rw [e1, e2, e3]; exact ih (i + 1) (by omega)) hb)
    obtain ⟨o1, _⟩ := outW_ok hw l i
    obtain ⟨v1, v2, _⟩ := vd_facts o1 (l.getD i 0)
    have ei : ari .add .i64 (i : Int) 1 = ((i + 1 : Nat) : Int) := by
      rw [ari_add, i64_in' (by omega) (by omega)]; omega
    have d : decide (((i + 1 : Nat) : Int) < (l.length : Int)) = true := decide_eq_true (by omega)
    have g1 : IsInt .i64 (i64s l) i := isI_of (i64s_at (by omega))
    have g2 : intAt (i64s l) i = l.getD i 0 := intAt_of (i64s_at (by omega))
    have hx0 : 0 ≤ (i : Int) := by omega
    have hx1 : (i : Int) < (l.length : Int) := by omega
    have hrb : RbOk ((outW ws l i).extract 0 64) := o1.rb
    have hle : 64 ≤ (outW ws l i).size := by rw [o1.sz]; decide
    have hvs : (voidW ((outW ws l i).extract 0 64) (l.getD i 0)).size = 64 := (void_rb o1.rb _).sz
    have e1 : putAt (outW ws l i) 0 (voidW ((outW ws l i).extract 0 64) (l.getD i 0)).toList = vdW (outW ws l i) (l.getD i 0) := rfl
    have e2 : outW ws l (i + 1) = vdW (outW ws l i) (l.getD i 0) := rfl
    have hv := v1.sz
    simp only [Int.toNat_natCast, Nat.mul_one, Nat.zero_add, ei, d, g1, g2, hx0, hx1, hrb, hle, hvs, e1, e2, hv, hz, true_implies, and_true, true_and, Bool.true_eq_false, false_implies, gC_d0_ok]
theorem rclear_con (r : Int) (m : SMem) : Con E0 11 [wsS ws, i64 (.o r)] m (needs [WsOk ws] (.ret (wsS (clearW ws r)) m)) := by
  refine Con.pure E0_ok (by kernel_rfl : E0.fn 11 = some Try.f11) (by kernel_rfl : Try.f11.body = some (Try.f11.body.getD .skip)) (by kernel_rfl) (by kernel_rfl) fun hq => ?_
  have hw : WsOk ws := hq _ (by simp)
  have hs := hw.sz
  have h1 : (-1 : Int) = -1 := rfl
  by_cases c : (thoseW ws r (-1) 32).length = 0
  · have e : clearW ws r = ws := by unfold clearW; rw [c]; rfl
    rw [e]
    refine (Good.ret [] (run_vc EG_ok 1000 (gc0 ws r ws (thoseW ws r (-1) 32).length (i64s (thoseW ws r (-1) 32)) (fun _ _ _ => False)) ?_ (fun s m h => h) fun fs m hm => gC_good (fun _ _ _ h => h.elim) hm)).mono fun _ _ h => h.1
    have d : decide ((thoseW ws r (-1) 32).length = 0) = true := decide_eq_true c
    simp only [d, hs, true_implies, Bool.true_eq_false, Bool.false_eq_true, false_implies, and_true, true_and]
    exact hw
  · refine (Good.ret [] (run_vc EG_ok 1000 (gc0 ws r (clearW ws r) (thoseW ws r (-1) 32).length (i64s (thoseW ws r (-1) 32)) (fun i w z => i = ((0 : Nat) : Int) ∧ w = ws ∧ z.size = 224)) ?_ (fun s m h => h) fun fs m hm => gC_good (fun i w z ⟨e1, e2, e3⟩ => by rw [e1, e2]; exact gC_ok (ws := ws) hw (thoseW_le 32) e3 ((thoseW ws r (-1) 32).length - 1) 0 (by omega)) hm)).mono fun _ _ h => h.1
    have d : decide ((thoseW ws r (-1) 32).length = 0) = false := decide_eq_false c
    have d2 : decide ((0 : Int) < ((thoseW ws r (-1) 32).length : Int)) = true := decide_eq_true (by omega)
    simp only [d, d2, hs, true_implies, Bool.true_eq_false, Bool.false_eq_true, false_implies, and_true, true_and, gC_d0_ok]
    repeat' first | exact hw | exact rfl | exact trivial | apply And.intro
end
end Go.Proofs.Ytnjmockpdmchcaa
