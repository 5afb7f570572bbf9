/- Of script: the contracts hold. No condition. -/
import Derived.Test.YtgljggoaadgddaaMB
import Derived.Test.YtgljggoaadgddaaRows
import Derived.Test.YtgljggoaadgddaaE1
import Derived.ProofKit
import Derived.OpenShut
import Derived.ChangeSame
import Derived.Deep.Slices
import Derived.Deep.Fields
import Derived.ChangeMaps5
namespace Go.Proofs.Ytgljggoaadgddaa
set_option linter.unusedSectionVars false
set_option maxRecDepth 100000
theorem l02 : (0 : Nat) < 2 := by decide
theorem l12 : (1 : Nat) < 2 := by decide
theorem l03 : (0 : Nat) < 3 := by decide
theorem l13 : (1 : Nat) < 3 := by decide
theorem l23 : (2 : Nat) < 3 := by decide
theorem rowV_of {m : SMem} {i : Nat} {v : Bool} {cs : Array Value} (h : rowV m i = some (v, cs)) : ∃ ty wr, getB m.bl i = some ⟨prA v cs, ty, wr⟩ := by
  unfold rowV at h
  split at h
  · rename_i e; cases h; exact ⟨_, _, e⟩
  · rename_i e; cases h; exact ⟨_, _, e⟩
  · cases h
theorem sl_pull {R : Ren} {i : Nat} {o n : SN} {c : SK} {v : Value} {ι : Nat → Nat} {k j : Nat} {o' : SN} (h : (SF.slice i o n c).ok R v) (hj : j < k) (hι : ι j = i) (ho : o'.den = o.den) : (SF.slice j o' (.o n.den) .any).ok (pull ι k R) v := by
  obtain ⟨g, cp, h1, h2, _, h4⟩ := h
  refine ⟨g, cp, ?_, ?_, trivial, h4⟩
  · unfold pull
    rw [if_pos hj, hι]
    exact h1
  · rw [ho]
    exact h2
theorem agg3 {R R' : Ren} {a b c a' b' c' : SF} {v : Value} (h : (SV.s (.agg (.ls [.f a, .f b, .f c]))).ok R v) (ha : ∀ u, a.ok R u → a'.ok R' u) (hb : ∀ u, b.ok R u → b'.ok R' u) (hc : ∀ u, c.ok R u → c'.ok R' u) : (SV.s (.agg (.ls [.f a', .f b', .f c']))).ok R' v := by
  obtain ⟨cs, rfl, hl⟩ := h
  refine ⟨cs, rfl, ?_⟩
  show All2 (SC.ok R') _ cs.toList
  have hl : All2 (SC.ok R) [.f a, .f b, .f c] cs.toList := hl
  match hcs : cs.toList, hl with
  | [x, y, z], hl => exact ⟨ha _ hl.1, hb _ hl.2.1, hc _ hl.2.2.1, trivial⟩
theorem get2 {x y : SBlk} {i : Nat} {b : SBlk} (h : getB (((Tr.nil : Tr SBlk).set 0 (some x)).set 1 (some y)) i = some b) : (i = 0 ∧ b = x) ∨ (i = 1 ∧ b = y) := by
  rw [getB_set] at h
  split at h
  · rename_i e; cases h; exact .inr ⟨e, rfl⟩
  · rw [getB_set] at h
    split at h
    · rename_i e; cases h; exact .inl ⟨e, rfl⟩
    · have h : (Tr.nil : Tr SBlk).get i = some b := h
      rw [Tr.get_nil] at h
      cases h
theorem get3 {x y z : SBlk} {i : Nat} {b : SBlk} (h : getB ((((Tr.nil : Tr SBlk).set 0 (some x)).set 1 (some y)).set 2 (some z)) i = some b) : (i = 0 ∧ b = x) ∨ (i = 1 ∧ b = y) ∨ (i = 2 ∧ b = z) := by
  rw [getB_set] at h
  split at h
  · rename_i e; cases h; exact .inr (.inr ⟨e, rfl⟩)
  · rcases get2 h with h | h
    · exact .inl h
    · exact .inr (.inl h)
/-! Great. -/
theorem fn5 : E0.fn 5 = some Try.f5 := by kernel_rfl
theorem body5 : Try.f5.body = some (Try.f5.body.getD .skip) := by kernel_rfl
theorem prA_pull {v : Bool} {cs : Array Value} {ι : Nat → Nat} {k : Nat} (R : Ren) (cs' : Array Value) (h : (prA v cs).okM R cs') : (prA v cs).okM (pull ι k R) cs' := by
  cases v <;> exact h
theorem greatT_ok {m : SMem} {x : SV} {t : Tree} (h : greatT m x = some t) : Con E0 5 [x] m t := by
  unfold greatT at h
  split at h
  · rename_i P i o n c q
    split at h
    · rename_i cs hr
      cases h
      obtain ⟨ty, wr, hb⟩ := rowV_of hr
      refine Con.ro E0_ok (l' := [refV P (slC 0 o.den n.den) q]) (ms := rawM cs ty) (A := boolR (greatV n.den q cs o.den)) fn5 body5 rfl (fun _ => i) ?_ ?_ (fun hq => gr_good P o.den n.den q cs ty (hq _ (List.mem_cons_self ..))) (fun _ _ _ _ _ => boolR_con)
      · intro j b hj
        obtain ⟨rfl, rfl⟩ := prM_get hj
        exact ⟨Nat.zero_lt_one, rfl, _, hb, rfl, fun R cs' h => h⟩
      · intro R vs ha
        match vs, ha with
        | [v], ha => exact ⟨agg3 ha.1 (fun _ h => h) (fun _ h => sl_pull h Nat.zero_lt_one rfl rfl) (fun _ h => h), trivial⟩
    · cases h
  · rename_i P q
    cases h
    refine Con.ro E0_ok (l := [refV P (.f .e0) q]) (l' := [refV P (.f .e0) q]) (ms := M0) (q := []) (A := boolR (decide (6000 < q.size))) fn5 body5 rfl (fun i => i) (fun i b hb => by
      have hb : (Tr.nil : Tr SBlk).get i = some b := hb
      rw [Tr.get_nil] at hb; cases hb) (fun R vs ha => ?_) (fun _ => gr_good0 P q) (fun _ _ _ _ _ => boolR_con)
    match vs, ha with
    | [v], ha => exact ⟨agg3 ha.1 (fun _ h => h) (fun _ h => h) (fun _ h => h), trivial⟩
  · cases h
/-! Encode. -/
theorem fn7 : E0.fn 7 = some Try.f7 := by kernel_rfl
theorem body7 : Try.f7.body = some (Try.f7.body.getD .skip) := by kernel_rfl
theorem encA_yes {e : ByteArray} {s : SV} {m' : SMem} {R R' : Ren} {v : Value} (h : encA true e s m') (hv : s.ok R' v) : (encV e).ok R v := by
  unfold encA at h
  split at h
  · rename_i s' y
    obtain ⟨_, h1, h2⟩ := h
    have h1 : s' = e := h1
    obtain ⟨vs, rfl, hl⟩ := hv
    match hvs : vs.toList, hl with
    | [a, c], hl =>
      refine ⟨vs, rfl, ?_⟩
      rw [hvs]
      obtain ⟨ha, hc, _⟩ := hl
      have hc : c = .int .i64 y.den := hc
      rw [h2] at hc
      rw [← h1]
      exact ⟨ha, hc, trivial⟩
  · exact absurd h.1 (by decide)
  · exact h.elim
theorem encA_no {e : ByteArray} {s : SV} {m' : SMem} {R R' : Ren} {v : Value} (h : encA false e s m') (hv : s.ok R' v) : nil3S.ok R v := by
  unfold encA at h
  split at h
  · exact absurd h.1 (by decide)
  · rename_i s' y
    obtain ⟨_, h1, h2⟩ := h
    have h1 : s' = .empty := h1
    obtain ⟨vs, rfl, hl⟩ := hv
    match hvs : vs.toList, hl with
    | [a, c], hl =>
      refine ⟨vs, rfl, ?_⟩
      rw [hvs]
      obtain ⟨ha, hc, _⟩ := hl
      have hc : c = .int .i64 y.den := hc
      rw [h2] at hc
      rw [h1] at ha
      exact ⟨ha, hc, trivial⟩
  · exact h.elim
theorem en_good2 (v : Bool) (P : Int) (o n k' : Nat) (cs bs : Array Value) (ty ty' : TypeId) (hS : StrOk cs o n) (hB : BytOk bs 0 k') : Good Try.prog (encA (mayS P o n k' cs bs) (encS P o n k' cs bs)) 2 (encC P (slC 0 o n) (pkC true k')) (rdM2 v cs bs ty ty') := by
  cases v with
  | true => exact en_good_tt P o n k' cs bs ty ty' hS hB (fun e => by cases e) hS.1
  | false => exact en_good_ft P o n k' cs bs ty ty' hS hB (fun e => by cases e) hS.1
theorem encT7_ok {m : SMem} {x : SV} {t : Tree} (h : encT7 m x = some t) : Con E0 7 [x] m t := by
  unfold encT7 at h
  split at h
  · rename_i P i o n c j k d
    split at h
    · rename_i v cs bs hr hr'
      cases h
      obtain ⟨ty, wr, hb⟩ := rowV_of hr
      obtain ⟨ty', wr', hb'⟩ := rowV_of hr'
      have con : ∀ (r : Bool) (s0 : SV), mayS P o.den n.den k.den cs bs = r → (∀ s m' R R' v, encA r (encS P o.den n.den k.den cs bs) s m' → s.ok R' v → s0.ok R v) → Con E0 7 [.s (.agg (.ls [.f (.int .i64 (.o P)), .f (.slice i o n c), .f (.slice j (.l 0) k d)]))] m (needs [StrOk cs o.den n.den, BytOk bs 0 k.den] (.ret s0 m)) := by
        intro r s0 hm hs
        refine Con.ro E0_ok (l' := [scV P (slC 0 o.den n.den) (pkC true k.den)]) (ms := rdM2 v cs bs ty ty') (A := encA r (encS P o.den n.den k.den cs bs)) fn7 body7 rfl (fun x => match x with | 0 => i | _ => j) ?_ ?_ (fun hq => hm ▸ en_good2 v P o.den n.den k.den cs bs ty ty' (hq _ (by simp)) (hq _ (by simp))) hs
        · intro x b hx
          rcases get2 hx with ⟨rfl, rfl⟩ | ⟨rfl, rfl⟩
          · exact ⟨l02, rfl, _, hb, rfl, fun R cs' h => prA_pull R cs' h⟩
          · exact ⟨l12, rfl, _, hb', rfl, fun R cs' h => h⟩
        · intro R vs ha
          match vs, ha with
          | [u], ha => exact ⟨agg3 ha.1 (fun _ h => h) (fun _ h => sl_pull h l02 rfl rfl) (fun _ h => sl_pull h l12 rfl rfl), trivial⟩
      exact Con.br (fun hm => con true _ hm fun _ _ _ _ _ => encA_yes) (fun hm => con false _ hm fun _ _ _ _ _ => encA_no)
    · cases h
  · rename_i P i o n c
    split at h
    · rename_i cs hr
      cases h
      obtain ⟨ty, wr, hb⟩ := rowV_of hr
      have con : ∀ (r : Bool) (s0 : SV), mayS P o.den n.den 0 cs #[] = r → (∀ s m' R R' v, encA r (encS P o.den n.den 0 cs #[]) s m' → s.ok R' v → s0.ok R v) → Con E0 7 [.s (.agg (.ls [.f (.int .i64 (.o P)), .f (.slice i o n c), nilC]))] m (needs [StrOk cs o.den n.den] (.ret s0 m)) := by
        intro r s0 hm hs
        refine Con.ro E0_ok (l' := [scV P (slC 0 o.den n.den) (pkC false 0)]) (ms := rdM2 false cs #[] ty ty) (A := encA r (encS P o.den n.den 0 cs #[])) fn7 body7 rfl (fun _ => i) ?_ ?_ (fun hq => hm ▸ en_good_ff P o.den n.den 0 cs #[] ty ty (hq _ (by simp)) ⟨by omega, fun j hj => by omega⟩ (fun _ => rfl) (hq _ (by simp) : StrOk cs o.den n.den).1) hs
        · intro x b hx
          rcases get2 hx with ⟨rfl, rfl⟩ | ⟨rfl, rfl⟩
          · exact ⟨l02, rfl, _, hb, rfl, fun R cs' h => h⟩
          · refine ⟨l12, rfl, _, hb, rfl, fun R cs' h => ?_⟩
            have h : cs'.toList.take cs.size = cs.toList ∧ ∀ v ∈ cs'.toList, v.oneCell' = true := h
            exact ⟨rfl, h.2⟩
        · intro R vs ha
          match vs, ha with
          | [u], ha => exact ⟨agg3 ha.1 (fun _ h => h) (fun _ h => sl_pull h l02 rfl rfl) (fun _ h => h), trivial⟩
      exact Con.br (fun hm => con true _ hm fun _ _ _ _ _ => encA_yes) (fun hm => con false _ hm fun _ _ _ _ _ => encA_no)
    · cases h
  · cases h
/-! May. -/
theorem fn10 : E0.fn 10 = some Try.f10 := by kernel_rfl
theorem body10 : Try.f10.body = some (Try.f10.body.getD .skip) := by kernel_rfl
theorem may10_good (P : Int) (o n k : Nat) (cs bs : Array Value) (ty ty' : TypeId) (hS : StrOk cs o n) (hB : BytOk bs 0 k) : Good Try.prog (boolR (mayS P o n k cs bs)) 2 (mayC10 P o n k) (rdM2 true cs bs ty ty') := by
  refine run_vc EV_ok 1000 (may_10 P o n k cs bs ty ty' _) ?_ (fun _ _ h => h) (fun _ _ h => h.elim)
  have hS : rowOk true cs o n := hS
  have hB : rowOk false bs 0 k := hB
  repeat' first | exact trivial | exact hS | exact hB | apply And.intro | intro _
  all_goals
    simp_all [mayS, anyV]
    try omega
theorem mayT10_ok {m : SMem} {x : SV} {t : Tree} (h : mayT10 m x = some t) : Con E0 10 [x] m t := by
  unfold mayT10 at h
  split at h
  · rename_i P i o n c j k d
    split at h
    · rename_i cs bs hr hr'
      cases h
      obtain ⟨ty, wr, hb⟩ := rowV_of hr
      obtain ⟨ty', wr', hb'⟩ := rowV_of hr'
      refine Con.ro E0_ok (l' := [scV P (slC 0 o.den n.den) (pkC true k.den)]) (ms := rdM2 true cs bs ty ty') (A := boolR (mayS P o.den n.den k.den cs bs)) fn10 body10 rfl (fun x => match x with | 0 => i | _ => j) ?_ ?_ (fun hq => may10_good P o.den n.den k.den cs bs ty ty' (hq _ (by simp)) (hq _ (by simp))) (fun _ _ _ _ _ => boolR_con)
      · intro x b hx
        rcases get2 hx with ⟨rfl, rfl⟩ | ⟨rfl, rfl⟩
        · exact ⟨l02, rfl, _, hb, rfl, fun R cs' h => h⟩
        · exact ⟨l12, rfl, _, hb', rfl, fun R cs' h => h⟩
      · intro R vs ha
        match vs, ha with
        | [u], ha => exact ⟨agg3 ha.1 (fun _ h => h) (fun _ h => sl_pull h l02 rfl rfl) (fun _ h => sl_pull h l12 rfl rfl), trivial⟩
    · cases h
  · cases h
/-! Same. -/
theorem fn14 : E0.fn 14 = some Try.f14 := by kernel_rfl
theorem body14 : Try.f14.body = some (Try.f14.body.getD .skip) := by kernel_rfl
theorem boolR_lit {s : SV} {m' : SMem} {R R' : Ren} {v : Value} (h : boolR true s m') (hv : s.ok R' v) : (sB (.l true)).ok R v := by
  unfold boolR at h
  split at h
  · rename_i x
    have hv : v = .bool x.den := hv
    rw [h] at hv
    exact hv
  · exact h.elim
theorem sameT14_ok {m : SMem} {x y : SV} {t : Tree} (h : sameT14 m x y = some t) : Con E0 14 [x, y] m t := by
  unfold sameT14 at h
  split at h
  · rename_i P i n c j k d P' i' o' n' c' q
    split at h
    · rename_i rs bs cs h1 h2 h3
      cases h
      obtain ⟨ty, wr, hb⟩ := rowV_of h1
      obtain ⟨tb, wr', hb'⟩ := rowV_of h2
      obtain ⟨tz, wr2, hb2⟩ := rowV_of h3
      refine Con.ro E0_ok (l' := [.s (.agg (.ls [.f (.int .i64 (.o P)), .f (.slice 0 (.l 0) (.o n.den) .any), smB true k.den])), refV P' (slC 1 o'.den n'.den) q]) (ms := smM true rs cs bs ty tz tb) (A := boolR true) fn14 body14 rfl (fun x => match x with | 0 => i | 1 => i' | _ => j) ?_ ?_ (fun hq => ?_) (fun _ _ _ _ _ => boolR_lit)
      · intro x b hx
        rcases get3 hx with ⟨rfl, rfl⟩ | ⟨rfl, rfl⟩ | ⟨rfl, rfl⟩
        · exact ⟨l03, rfl, _, hb, rfl, fun R cs' h => h⟩
        · exact ⟨l13, rfl, _, hb2, rfl, fun R cs' h => h⟩
        · exact ⟨l23, rfl, _, hb', rfl, fun R cs' h => h⟩
      · intro R vs ha
        match vs, ha with
        | [u, w], ha => exact ⟨agg3 ha.1 (fun _ h => h) (fun _ h => sl_pull h l03 rfl rfl) (fun _ h => sl_pull h l23 rfl rfl), agg3 ha.2.1 (fun _ h => h) (fun _ h => sl_pull h l13 rfl rfl) (fun _ h => h), trivial⟩
      · have e1 : P = P' := hq _ (by simp)
        have e2 : n.den = n'.den := hq _ (by simp)
        rw [← e1, ← e2]
        exact sm_good_t P n.den k.den o'.den q rs cs bs ty tz tb (hq _ (by simp)) (hq _ (by simp))
    · cases h
  · rename_i P i n c P' i' o' n' c' q
    split at h
    · rename_i rs cs h1 h3
      cases h
      obtain ⟨ty, wr, hb⟩ := rowV_of h1
      obtain ⟨tz, wr2, hb2⟩ := rowV_of h3
      refine Con.ro E0_ok (l' := [.s (.agg (.ls [.f (.int .i64 (.o P)), .f (.slice 0 (.l 0) (.o n.den) .any), smB false 0])), refV P' (slC 1 o'.den n'.den) q]) (ms := smM false rs cs #[] ty tz 0) (A := boolR true) fn14 body14 rfl (fun x => match x with | 0 => i | _ => i') ?_ ?_ (fun hq => ?_) (fun _ _ _ _ _ => boolR_lit)
      · intro x b hx
        rcases get2 hx with ⟨rfl, rfl⟩ | ⟨rfl, rfl⟩
        · exact ⟨l02, rfl, _, hb, rfl, fun R cs' h => h⟩
        · exact ⟨l12, rfl, _, hb2, rfl, fun R cs' h => h⟩
      · intro R vs ha
        match vs, ha with
        | [u, w], ha => exact ⟨agg3 ha.1 (fun _ h => h) (fun _ h => sl_pull h l02 rfl rfl) (fun _ h => h), agg3 ha.2.1 (fun _ h => h) (fun _ h => sl_pull h l12 rfl rfl) (fun _ h => h), trivial⟩
      · have e1 : P = P' := hq _ (by simp)
        have e2 : n.den = n'.den := hq _ (by simp)
        rw [← e1, ← e2]
        exact sm_good_f P n.den 0 o'.den q rs cs #[] ty tz 0 (hq _ (by simp)) (hq _ (by simp))
    · cases h
  · cases h
end Go.Proofs.Ytgljggoaadgddaa
/- Of script: Decode as a contract; ScriptBack's runs end with true. No condition. -/
namespace Go.Proofs.Ytgljggoaadgddaa
set_option linter.unusedSectionVars false
set_option maxRecDepth 100000
/-- A function that is handed no block, and makes some. -/
theorem Con.freshG {g : FuncId} {fn : Func} {c : Code} {l : List SV} {m ms' : SMem} {q : List Prop} {s0 : SV} (h1 : E0.fn g = some fn) (h2 : fn.body = some c) (hl : allB noIds l = true)
    (good : (∀ p ∈ q, p) → Good Try.prog (fun s m' => s = s0 ∧ m' = ms') 0 [callFr g fn.ntmps l c] M0) : Con E0 g l m (needs q (.ret (s0.re (sh m.next)) (ins2 m ms'))) := by
  intro A hs
  obtain ⟨hq, hA⟩ := Tree.sat_needs hs
  refine ⟨fn, h1, by rw [h2]; rfl, fun n0 F w0 w R args ha hR => ?_⟩
  have none : ∀ {i : Nat} {b : SBlk}, getB M0.bl i = some b → False := by
    intro i b hb
    have hb : (Tr.nil : Tr SBlk).get i = some b := hb
    rw [Tr.get_nil] at hb
    cases hb
  refine (frame (ms := M0) (ms' := ms') (m := m) (ι := fun i => i) (E0_ok.fns _ _ h1).1 h2 (good hq) rfl (fun i j h => absurd h (Nat.not_lt_zero _)) (fun i h => absurd h (Nat.not_lt_zero _)) (fun i b hb => (none hb).elim) (fun i b hb => (none hb).elim) (fun i b _ h => absurd h (Nat.not_lt_zero _)) (Nat.zero_le _) (ok_anys hl ha) hR).mono ?_
  rintro v w' ⟨R', hX, hR', hv⟩
  exact ⟨_, _, R', hA, hX, hR', hv⟩
theorem fn12 : E0.fn 12 = some Try.f12 := by kernel_rfl
theorem body12 : Try.f12.body = some (Try.f12.body.getD .skip) := by kernel_rfl
theorem noIds_str (b : ByteArray) : allB noIds [strV' b] = true := rfl
theorem dA_yes {w : Bool} {P : Int} {n k : Nat} {rs bs : Array Value} {s : SV} {m' : SMem} (h : dA true w P n k rs bs s m') : ∃ π, retOk 0 π (resV P n (cond w (.f (.slice 1 (.l 0) (.o k) .any)) nilC)) (resM w rs bs) s m' := by
  unfold dA at h
  split at h
  · split at h
    · exact absurd h.1 (by decide)
    · split at h
      · obtain ⟨_, h1, h2⟩ := h
        rw [h1]
        exact ⟨_, h2⟩
      · obtain ⟨_, h1, h2⟩ := h
        rw [h1]
        exact ⟨_, h2⟩
      · exact h.elim
    · exact h.elim
  · exact h.elim
theorem dA_no {w : Bool} {P : Int} {n k : Nat} {rs bs : Array Value} {s : SV} {m' : SMem} {R R' : Ren} {v : Value} (h : dA false w P n k rs bs s m') (hv : s.ok R' v) : res3.ok R v := by
  unfold dA at h
  split at h
  · rename_i p A B y
    split at h
    · obtain ⟨_, h1, h2, h3⟩ := h
      split at h3
      · obtain ⟨vs, rfl, hl⟩ := hv
        match hvs : vs.toList, hl with
        | [a, c], hl =>
          refine ⟨vs, rfl, ?_⟩
          rw [hvs]
          obtain ⟨⟨cs, ea, hc⟩, hd, _⟩ := hl
          have hd : c = .int .i64 y.den := hd
          rw [h2] at hd
          refine ⟨⟨cs, ea, ?_⟩, hd, trivial⟩
          have hc : All2 (SC.ok R') [.f (.int .i64 p), .f (.lit (.slice none 0 0)), .f (.lit (.slice none 0 0))] cs.toList := hc
          show All2 (SC.ok R) [.f (.int .i64 (.l 0)), nilC, nilC] cs.toList
          match hcs : cs.toList, hc with
          | [x, y', z], hc =>
            have hx : x = .int .i64 p.den := hc.1
            rw [h1] at hx
            exact ⟨hx, hc.2.1, hc.2.2.1, trivial⟩
      · exact h3.elim
    · split at h
      · exact absurd h.1 (by decide)
      · exact absurd h.1 (by decide)
      · exact h.elim
    · exact h.elim
  · exact h.elim
theorem decT12_ok {m : SMem} {x : SV} {t : Tree} (h : decT12 m x = some t) : Con E0 12 [x] m t := by
  unfold decT12 at h
  split at h
  · rename_i b
    cases h
    refine Con.br (fun hd => Con.br (fun hw => ?_) fun hw => ?_) fun hd => ?_
    · refine Con.freshG fn12 body12 (noIds_str b) fun hq => Good.retX ((dec_every b (hq _ (by simp))).mono fun s m' h => ?_)
      unfold dAb at h
      rw [hd, hw] at h
      exact dA_yes h
    · refine Con.freshG fn12 body12 (noIds_str b) fun hq => Good.retX ((dec_every b (hq _ (by simp))).mono fun s m' h => ?_)
      unfold dAb at h
      rw [hd, hw] at h
      exact dA_yes h
    · refine Con.ro E0_ok (l := [strV' b]) (l' := [strV' b]) (ms := M0) (m := m) (q := _) (A := dAb b) fn12 body12 rfl (fun i => i) (fun i b hb => by
        have hb : (Tr.nil : Tr SBlk).get i = some b := hb
        rw [Tr.get_nil] at hb; cases hb) (fun R vs ha => strV_ok ha) (fun hq => dec_every b (hq _ (by simp))) (fun s m' R R' v h hv => ?_)
      unfold dAb at h
      rw [hd] at h
      exact dA_no h hv
  · cases h
theorem conL'_ok (g : FuncId) (l : List SV) (m : SMem) (t : Tree) (h : conL' g l m = some t) : Con E0 g l m t := by
  unfold conL' at h
  split at h
  · cases h; exact wakes_con m
  · exact greatT_ok h
  · exact encT7_ok h
  · exact mayT10_ok h
  · exact decT12_ok h
  · exact sameT14_ok h
  · cases h
theorem ELw_ok : EnvOk ELw := EnvOk.with E0_ok _ _ conL'_ok
theorem same_str (b : ByteArray) : ((match mkSB (false && false) (ByteArray.toList b == ByteArray.toList b) with | SB.l b => b | SB.o b => b) == true) = true := by
  show ((b.toList == b.toList) == true) = true
  simp
theorem great_facts {n o : Nat} {q : ByteArray} {cs : Array Value} (hI : StrI cs o n) (h : greatV n q cs o = false) : StrOk cs o n ∧ BytOk (celA q) 0 q.size := by
  unfold greatV at h
  rw [Bool.or_eq_false_iff, Bool.or_eq_false_iff, decide_eq_false_iff_not, decide_eq_false_iff_not] at h
  obtain ⟨⟨h1, h2⟩, h3⟩ := h
  exact ⟨⟨by omega, fun j hj => ⟨hI.2 j hj, by have := anyG_at.1 h3 j hj; omega⟩⟩, celA_ok q (by omega)⟩
/-- What is said of the bytes that are read. -/
theorem b_part (b : ByteArray) (hb : b.size ≤ 8000) : StrOk (rowP b (numB b)) 0 (numB b) ∧ BytOk (celA (leftB b)) 0 (leftB b).size ∧ (okD b = true → mayS (byteAt b 0) 0 (numB b) (leftB b).size (rowP b (numB b)) (celA (leftB b)) = true ∧
    encS (byteAt b 0) 0 (numB b) (leftB b).size (rowP b (numB b)) (celA (leftB b)) = b ∧ (decide ((leftB b).size ≠ 0) = false → mayS (byteAt b 0) 0 (numB b) 0 (rowP b (numB b)) #[] = true ∧ encS (byteAt b 0) 0 (numB b) 0 (rowP b (numB b)) #[] = b)) := by
  refine ⟨rowP_ok (by omega) (by have := (numB_le b).1; omega), celA_ok _ (by unfold leftB; rw [ext_size]; omega), fun h => ?_⟩
  have hm := (okD_iff h).2.2
  have he := back_b h
  refine ⟨hm, he, fun hz => ?_⟩
  have hz : (leftB b).size = 0 := by simpa using hz
  rw [hz] at hm he
  exact ⟨mayS_nil hm, by rw [← encS_nil _ _ _ _ (celA (leftB b))]; exact he⟩
end Go.Proofs.Ytgljggoaadgddaa
/- Of script: the reference's Decode, and Same for rows of one's own: their states. No condition. -/
namespace Go.Proofs.Ytgljggoaadgddaa
noncomputable section
/-- The reference's May, as a contract. -/
def m9T (m : SMem) : SV → Option Tree
  | .s (.agg (.ls [.f (.int .i64 (.o P)), .f (.slice i o n _), .f (.opq (.string q))])) => match rowV m i with
    | some (_, cs) => some (needs [StrR cs o.den n.den] (.ret (sB (.o (mayS P o.den n.den q.size cs (celA q)))) m))
    | none => none
  | .s (.agg (.ls [.f (.int .i64 (.o _)), .f .e0, .f (.opq (.string _))])) => some (.ret (sB (.l false)) m)
  | .s (.agg (.ls [.f (.int .i64 (.o _)), .f (.lit (.slice none 0 0)), .f (.opq (.string _))])) => some (.ret (sB (.l false)) m)
  | _ => none
def conJ (g : FuncId) (l : List SV) (m : SMem) : Option Tree := match g, l with
  | 9, [x] => m9T m x
  | _, _ => none
def EJ : Env := ⟨Try.prog, fnOf, conJ, fun _ f x => Nat.beq f 13 && isLoop x⟩
def EJn : Env := ⟨Try.prog, fnOf, conJ, fun _ _ _ => false⟩
def fC (b : ByteArray) : List SFr := [callFr 13 Try.f13.ntmps [strV' b] (Try.f13.body.getD .skip)]
def fR (b : ByteArray) : Tree := (gR EJ 0 (fC b) M0).pick [false]
def fF (b : ByteArray) (n a i : Int) : List SFr := setSl [(5, i64 (.o n)), (6, i64 (.o a)), (7, i64 (.o i))] (dropSl [9, 10, 11, 13, 14, 15, 16, 17, 18, 19] ((fR b).fsE.map SFr.bare))
def scE (P : Int) (A : SC) : SA := .ls [.f (.int .i64 (.o P)), A, .f (.lit (.string ⟨⟨[]⟩⟩))]
def fM0 (b : ByteArray) (P : Int) : SMem := putAll [(1, scE P nilC)] (fR b).memE.bare
def fM1 (b : ByteArray) (P : Int) (k : Nat) (rs : Array Value) : SMem :=
  ⟨3, (putAll [(1, scE P (.f (.slice 2 (.l 0) (.o k) (.full 1))))] (fR b).memE.bare).bl.set 2 (some ⟨.pop rs, 9, true⟩), []⟩
def fN (b : ByteArray) (Q0 : Int → Int → Int → Int → Prop) (Q1 : Int → Int → Int → Int → Nat → Array Value → Prop) (fs : List SFr) (m : SMem) : Prop := match fs with
  | f :: _ => match rdI f 5, rdI f 6, rdI f 7, rdSc m 1 with
    | some n, some a, some i, some (P, .lit (.slice none 0 0)) => Q0 n a i P ∧ subOk 0 (idFrom 0 2) (headF (fF b n a i)) (fM0 b P) fs m
    | some n, some a, some i, some (P, .slice sid _ k _) => match rdA m sid with
      | some rs => Q1 n a i P k.den rs ∧ subOk 0 [(0, 0), (1, 1), (2, sid)] (headF (fF b n a i)) (fM1 b P k.den rs) fs m
      | none => False
    | _, _, _, _ => False
  | [] => False
/-- At the loop's first beginning. -/
def fN0 (b : ByteArray) (Q0 : Int → Int → Int → Int → Prop) (fs : List SFr) (m : SMem) : Prop := match fs with
  | f :: _ => match rdI f 5, rdI f 6, rdI f 7, rdSc m 1 with
    | some n, some a, some i, some (P, _) => Q0 n a i P ∧ subOk 0 (idFrom 0 2) (fF b n a i) (fM0 b P) fs m
    | _, _, _, _ => False
  | [] => False
def fS0 (b : ByteArray) (P n a i : Int) : Tree := stepT EJ.go (run EJ 1000) 0 (headF (fF b n a i)) (fM0 b P)
def fS1 (b : ByteArray) (P n a i : Int) (k : Nat) (rs : Array Value) : Tree := stepT EJ.go (run EJ 1000) 0 (headF (fF b n a i)) (fM1 b P k rs)
def resR (P : Int) (n : Nat) (q : ByteArray) : SV := .tup [.agg (.ls [.f (.int .i64 (.o P)), .f (.slice 0 (.l 0) (.o n) .any), .f (.opq (.string q))]), .c (.f (.bool (.l true)))]
/-- What the reference's Decode answers. -/
def fA (ok : Bool) (P : Int) (n : Nat) (q : ByteArray) (rs : Array Value) (s : SV) (m : SMem) : Prop := match s with
  | .tup [.agg (.ls [.f (.int .i64 p), .f A, .f B]), .c (.f (.bool y))] => match A with
    | .lit (.slice none 0 0) => ok = false ∧ p.den = 0 ∧ y.den = false ∧ (match B with | .lit (.string ⟨⟨[]⟩⟩) => True | _ => False)
    | .slice sid _ _ _ => ok = true ∧ retOk 0 [(0, sid)] (resR P n q) (resM false rs #[]) s m
    | _ => False
  | _ => False
def fT0 : List SIt := headTd (fF .empty 0 0 0)
def fH0 : List SIt := headTd (headF (fF .empty 0 0 0))
/-! Same, of two rows of one's own. -/
def s2M (w : Bool) (rs cs bs : Array Value) (ty tz tb : TypeId) : SMem := match w with
  | false => ⟨2, ((Tr.nil : Tr SBlk).set 0 (some ⟨.pop rs, ty, false⟩)).set 1 (some ⟨.pop cs, tz, false⟩), []⟩
  | true => ⟨3, (((Tr.nil : Tr SBlk).set 0 (some ⟨.pop rs, ty, false⟩)).set 1 (some ⟨.pop cs, tz, false⟩)).set 2 (some ⟨.pop bs, tb, false⟩), []⟩
def s2N (h w : Bool) (P : Int) (n k : Nat) (P' : Int) (o n' : Nat) (q : ByteArray) (rs cs bs : Array Value) (ty tz tb : TypeId) (Q : Int → Prop) (fs : List SFr) (m : SMem) : Prop := match fs with
  | f :: _ => match rdI f 5 with
    | some i => Q i ∧ gN EV (smb w) (smC P n (smB w k) P' o n' q) (s2M w rs cs bs ty tz tb) h [(5, i64 (.o i))] [] fs m
    | none => False
  | [] => False
def s2T0 : List SIt := headTd (gF EV 3 (smC 0 0 (smB true 0) 0 0 0 .empty) (s2M true #[] #[] #[] 0 0 0) [])
def s2H0 : List SIt := headTd (gH EV 3 (smC 0 0 (smB true 0) 0 0 0 .empty) (s2M true #[] #[] #[] 0 0 0) [])
end
end Go.Proofs.Ytgljggoaadgddaa
/- Of script: the reference's Decode's rounds and Same's, as propositions. No condition. -/
namespace Go.Proofs.Ytgljggoaadgddaa
set_option maxRecDepth 100000
theorem f_start (b : ByteArray) (ok : Bool) (P : Int) (n : Nat) (q : ByteArray) (rs : Array Value) (Q0 : Int → Int → Int → Int → Prop) : (gR EJ 0 (fC b) M0).vc (fA ok P n q rs) (fN0 b Q0) =
    ((decide (((((ByteArray.size b) : Nat) : Int)) < (2 : Int)) = true → ok = false ∧ (0 : Int) = (0 : Int) ∧ false = false ∧ True) ∧ (decide (((((ByteArray.size b) : Nat) : Int)) < (2 : Int)) = false → (((0 : Int) ≤ (0 : Int) ∧ (0 : Int) < (↑((ByteArray.size b)) : Int)) ∧ True) ∧ (((0 : Int) ≤ (1 : Int) ∧ (1 : Int) < (↑((ByteArray.size b)) : Int)) ∧ True) ∧ Q0 (IntKind.wrap IntKind.i64 (byteAt b (1 : Nat))) (2 : Int) (0 : Int) (IntKind.wrap IntKind.i64 (byteAt b (0 : Nat))) ∧ CallKind.normal = CallKind.normal ∧ TodoOk (ren 0 [(0, 0), (1, 1)]) fT0 fT0 ∧ Value.string b = Value.string b ∧ (0 : Int) = (0 : Int) ∧ IntKind.wrap IntKind.i64 (byteAt b (1 : Nat)) = IntKind.wrap IntKind.i64 (byteAt b (1 : Nat)) ∧ (2 : Int) = (2 : Int) ∧ (24 : Nat) = (24 : Nat) ∧ Value.slice none (0 : Nat) (0 : Nat) = Value.slice none (0 : Nat) (0 : Nat) ∧ Value.string (ByteArray.mk #[]) = Value.string (ByteArray.mk #[]) ∧ (24 : Nat) = (24 : Nat) ∧ IntKind.wrap IntKind.i64 (byteAt b (0 : Nat)) = IntKind.wrap IntKind.i64 (byteAt b (0 : Nat)) ∧ Value.slice none (0 : Nat) (0 : Nat) = Value.slice none (0 : Nat) (0 : Nat) ∧ Value.string (ByteArray.mk (Array.mk [])) = Value.string (ByteArray.mk #[]) ∧ True)) := by kernel_rfl
theorem f_first (b : ByteArray) (P n a i : Int) (ok : Bool) (P' : Int) (n' : Nat) (q' : ByteArray) (rs' : Array Value) (Q0 : Int → Int → Int → Int → Prop) (Q1 : Int → Int → Int → Int → Nat → Array Value → Prop) : (fS0 b P n a i).vc (fA ok P' n' q' rs') (fN b Q0 Q1) =
    ((decide (i < n) = true → (decide (a ≥ (((ByteArray.size b) : Nat) : Int)) = true → ok = false ∧ (0 : Int) = (0 : Int) ∧ false = false ∧ True) ∧ (decide (a ≥ (((ByteArray.size b) : Nat) : Int)) = false → (((0 : Int) ≤ a ∧ a < (↑((ByteArray.size b)) : Int)) ∧ True) ∧ (decide (ari BinOp.add IntKind.i64 (ari BinOp.add IntKind.i64 a (1 : Int)) (ari BinOp.mul IntKind.i64 (6 : Int) (IntKind.wrap IntKind.i64 (byteAt b (Int.toNat a)))) > (((ByteArray.size b) : Nat) : Int)) = true → ok = false ∧ (0 : Int) = (0 : Int) ∧ false = false ∧ True) ∧ (decide (ari BinOp.add IntKind.i64 (ari BinOp.add IntKind.i64 a (1 : Int)) (ari BinOp.mul IntKind.i64 (6 : Int) (IntKind.wrap IntKind.i64 (byteAt b (Int.toNat a)))) > (((ByteArray.size b) : Nat) : Int)) = false → ((0 : Int) ≤ ari BinOp.add IntKind.i64 (ari BinOp.add IntKind.i64 a (1 : Int)) (ari BinOp.mul IntKind.i64 (6 : Int) (IntKind.wrap IntKind.i64 (byteAt b (Int.toNat a)))) ∧ (Int.toNat (ari BinOp.add IntKind.i64 (ari BinOp.add IntKind.i64 a (1 : Int)) (ari BinOp.mul IntKind.i64 (6 : Int) (IntKind.wrap IntKind.i64 (byteAt b (Int.toNat a))))) ≤ (ByteArray.size b)) ∧ (0 : Int) ≤ ari BinOp.add IntKind.i64 a (1 : Int) ∧ Int.toNat (ari BinOp.add IntKind.i64 a (1 : Int)) ≤ Int.toNat (ari BinOp.add IntKind.i64 (ari BinOp.add IntKind.i64 a (1 : Int)) (ari BinOp.mul IntKind.i64 (6 : Int) (IntKind.wrap IntKind.i64 (byteAt b (Int.toNat a))))) ∧ True) ∧ Q1 n (ari BinOp.add IntKind.i64 (ari BinOp.add IntKind.i64 a (1 : Int)) (ari BinOp.mul IntKind.i64 (6 : Int) (IntKind.wrap IntKind.i64 (byteAt b (Int.toNat a))))) (ari BinOp.add IntKind.i64 i (1 : Int)) P (1 : Nat) #[Value.string (ByteArray.extract b (Int.toNat (ari BinOp.add IntKind.i64 a (1 : Int))) (Int.toNat (ari BinOp.add IntKind.i64 (ari BinOp.add IntKind.i64 a (1 : Int)) (ari BinOp.mul IntKind.i64 (6 : Int) (IntKind.wrap IntKind.i64 (byteAt b (Int.toNat a)))))))] ∧ CallKind.normal = CallKind.normal ∧ TodoOk (ren 0 [(0, 0), (1, 1), (2, 3)]) fH0 fH0 ∧ Value.string b = Value.string b ∧ ari BinOp.add IntKind.i64 i (1 : Int) = ari BinOp.add IntKind.i64 i (1 : Int) ∧ n = n ∧ ari BinOp.add IntKind.i64 (ari BinOp.add IntKind.i64 a (1 : Int)) (ari BinOp.mul IntKind.i64 (6 : Int) (IntKind.wrap IntKind.i64 (byteAt b (Int.toNat a)))) = ari BinOp.add IntKind.i64 (ari BinOp.add IntKind.i64 a (1 : Int)) (ari BinOp.mul IntKind.i64 (6 : Int) (IntKind.wrap IntKind.i64 (byteAt b (Int.toNat a)))) ∧ (24 : Nat) = (24 : Nat) ∧ Value.slice none (0 : Nat) (0 : Nat) = Value.slice none (0 : Nat) (0 : Nat) ∧ Value.string (ByteArray.mk #[]) = Value.string (ByteArray.mk #[]) ∧ (24 : Nat) = (24 : Nat) ∧ P = P ∧ (1 : Nat) = (1 : Nat) ∧ Value.string (ByteArray.mk (Array.mk [])) = Value.string (ByteArray.mk (Array.mk [])) ∧ (9 : TypeId) = (9 : Nat) ∧ #[Value.string (ByteArray.extract b (Int.toNat (ari BinOp.add IntKind.i64 a (1 : Int))) (Int.toNat (ari BinOp.add IntKind.i64 (ari BinOp.add IntKind.i64 a (1 : Int)) (ari BinOp.mul IntKind.i64 (6 : Int) (IntKind.wrap IntKind.i64 (byteAt b (Int.toNat a)))))))] = #[Value.string (ByteArray.extract b (Int.toNat (ari BinOp.add IntKind.i64 a (1 : Int))) (Int.toNat (ari BinOp.add IntKind.i64 (ari BinOp.add IntKind.i64 a (1 : Int)) (ari BinOp.mul IntKind.i64 (6 : Int) (IntKind.wrap IntKind.i64 (byteAt b (Int.toNat a)))))))] ∧ True))) ∧ (decide (i < n) = false → ((0 : Int) ≤ a ∧ (Int.toNat a ≤ (ByteArray.size b)) ∧ True) ∧ ok = false ∧ (0 : Int) = (0 : Int) ∧ false = false ∧ True)) := by kernel_rfl
theorem f_step (b : ByteArray) (P n a i : Int) (k : Nat) (rs : Array Value) (ok : Bool) (P' : Int) (n' : Nat) (q' : ByteArray) (rs' : Array Value) (Q0 : Int → Int → Int → Int → Prop) (Q1 : Int → Int → Int → Int → Nat → Array Value → Prop) : (fS1 b P n a i k rs).vc (fA ok P' n' q' rs') (fN b Q0 Q1) =
    ((decide (i < n) = true → (decide (a ≥ (((ByteArray.size b) : Nat) : Int)) = true → ok = false ∧ (0 : Int) = (0 : Int) ∧ false = false ∧ True) ∧ (decide (a ≥ (((ByteArray.size b) : Nat) : Int)) = false → (((0 : Int) ≤ a ∧ a < (↑((ByteArray.size b)) : Int)) ∧ True) ∧ (decide (ari BinOp.add IntKind.i64 (ari BinOp.add IntKind.i64 a (1 : Int)) (ari BinOp.mul IntKind.i64 (6 : Int) (IntKind.wrap IntKind.i64 (byteAt b (Int.toNat a)))) > (((ByteArray.size b) : Nat) : Int)) = true → ok = false ∧ (0 : Int) = (0 : Int) ∧ false = false ∧ True) ∧ (decide (ari BinOp.add IntKind.i64 (ari BinOp.add IntKind.i64 a (1 : Int)) (ari BinOp.mul IntKind.i64 (6 : Int) (IntKind.wrap IntKind.i64 (byteAt b (Int.toNat a)))) > (((ByteArray.size b) : Nat) : Int)) = false → ((0 : Int) ≤ ari BinOp.add IntKind.i64 (ari BinOp.add IntKind.i64 a (1 : Int)) (ari BinOp.mul IntKind.i64 (6 : Int) (IntKind.wrap IntKind.i64 (byteAt b (Int.toNat a)))) ∧ (Int.toNat (ari BinOp.add IntKind.i64 (ari BinOp.add IntKind.i64 a (1 : Int)) (ari BinOp.mul IntKind.i64 (6 : Int) (IntKind.wrap IntKind.i64 (byteAt b (Int.toNat a))))) ≤ (ByteArray.size b)) ∧ (0 : Int) ≤ ari BinOp.add IntKind.i64 a (1 : Int) ∧ Int.toNat (ari BinOp.add IntKind.i64 a (1 : Int)) ≤ Int.toNat (ari BinOp.add IntKind.i64 (ari BinOp.add IntKind.i64 a (1 : Int)) (ari BinOp.mul IntKind.i64 (6 : Int) (IntKind.wrap IntKind.i64 (byteAt b (Int.toNat a))))) ∧ True) ∧ (((k + 1) * 16 ≤ (140737488355328 : Nat) ∧ k + 1 ≤ (140737488355328 : Nat)) ∧ k * 1 = Array.size rs ∧ True) ∧ Q1 n (ari BinOp.add IntKind.i64 (ari BinOp.add IntKind.i64 a (1 : Int)) (ari BinOp.mul IntKind.i64 (6 : Int) (IntKind.wrap IntKind.i64 (byteAt b (Int.toNat a))))) (ari BinOp.add IntKind.i64 i (1 : Int)) P (k + 1) (rs ++ #[Value.string (ByteArray.extract b (Int.toNat (ari BinOp.add IntKind.i64 a (1 : Int))) (Int.toNat (ari BinOp.add IntKind.i64 (ari BinOp.add IntKind.i64 a (1 : Int)) (ari BinOp.mul IntKind.i64 (6 : Int) (IntKind.wrap IntKind.i64 (byteAt b (Int.toNat a)))))))]) ∧ CallKind.normal = CallKind.normal ∧ TodoOk (ren 0 [(0, 0), (1, 1), (2, 4)]) fH0 fH0 ∧ Value.string b = Value.string b ∧ ari BinOp.add IntKind.i64 i (1 : Int) = ari BinOp.add IntKind.i64 i (1 : Int) ∧ n = n ∧ ari BinOp.add IntKind.i64 (ari BinOp.add IntKind.i64 a (1 : Int)) (ari BinOp.mul IntKind.i64 (6 : Int) (IntKind.wrap IntKind.i64 (byteAt b (Int.toNat a)))) = ari BinOp.add IntKind.i64 (ari BinOp.add IntKind.i64 a (1 : Int)) (ari BinOp.mul IntKind.i64 (6 : Int) (IntKind.wrap IntKind.i64 (byteAt b (Int.toNat a)))) ∧ (24 : Nat) = (24 : Nat) ∧ Value.slice none (0 : Nat) (0 : Nat) = Value.slice none (0 : Nat) (0 : Nat) ∧ Value.string (ByteArray.mk #[]) = Value.string (ByteArray.mk #[]) ∧ (24 : Nat) = (24 : Nat) ∧ P = P ∧ k + 1 = k + 1 ∧ Value.string (ByteArray.mk (Array.mk [])) = Value.string (ByteArray.mk (Array.mk [])) ∧ (9 : TypeId) = (9 : Nat) ∧ rs ++ #[Value.string (ByteArray.extract b (Int.toNat (ari BinOp.add IntKind.i64 a (1 : Int))) (Int.toNat (ari BinOp.add IntKind.i64 (ari BinOp.add IntKind.i64 a (1 : Int)) (ari BinOp.mul IntKind.i64 (6 : Int) (IntKind.wrap IntKind.i64 (byteAt b (Int.toNat a)))))))] = rs ++ #[Value.string (ByteArray.extract b (Int.toNat (ari BinOp.add IntKind.i64 a (1 : Int))) (Int.toNat (ari BinOp.add IntKind.i64 (ari BinOp.add IntKind.i64 a (1 : Int)) (ari BinOp.mul IntKind.i64 (6 : Int) (IntKind.wrap IntKind.i64 (byteAt b (Int.toNat a)))))))] ∧ True))) ∧ (decide (i < n) = false → ((0 : Int) ≤ a ∧ (Int.toNat a ≤ (ByteArray.size b)) ∧ True) ∧ (StrR rs (0 : Nat) k ∧ True) ∧ ((!mayS P (0 : Nat) k (ByteArray.size (ByteArray.extract b (Int.toNat a) ((ByteArray.size b)))) rs (celA (ByteArray.extract b (Int.toNat a) ((ByteArray.size b))))) = true → ok = false ∧ (0 : Int) = (0 : Int) ∧ false = false ∧ True) ∧ ((!mayS P (0 : Nat) k (ByteArray.size (ByteArray.extract b (Int.toNat a) ((ByteArray.size b)))) rs (celA (ByteArray.extract b (Int.toNat a) ((ByteArray.size b))))) = false → ok = true ∧ P' = P ∧ n' = k ∧ Value.string q' = Value.string (ByteArray.extract b (Int.toNat a) ((ByteArray.size b))) ∧ (9 : TypeId) = (9 : TypeId) ∧ rs' = rs ∧ True))) := by kernel_rfl
theorem f_none (b : ByteArray) (ok : Bool) (P : Int) (n : Nat) (q : ByteArray) (rs : Array Value) : (run EJn 1000 0 (fC b) M0).follow (fA ok P n q rs) (fun _ _ => False) [true] =
    (decide (((((ByteArray.size b) : Nat) : Int)) < (2 : Int)) = true ∧ ok = false ∧ (0 : Int) = (0 : Int) ∧ false = false ∧ True) := by kernel_rfl
theorem s2_start_t (P : Int) (n k : Nat) (P' : Int) (o n' : Nat) (q : ByteArray) (rs cs bs : Array Value) (ty tz tb : TypeId) (Q : Int → Prop) : (gR EV 3 (smC P n (smB true k) P' o n' q) (s2M true rs cs bs ty tz tb)).vc (boolR true) (s2N false true P n k P' o n' q rs cs bs ty tz tb Q) =
    ((((P != P') == false) = true → ((((↑n : Int) != (↑n' : Int)) == false) = true → ((0 : Nat) + k ≤ Array.size bs ∧ AllU8 (Array.extract bs (0 : Nat) ((0 : Nat) + k)).1 ∧ True) ∧ ((!ByteArray.toList (strOf (Array.toList (Array.extract bs (0 : Nat) ((0 : Nat) + k)))) == ByteArray.toList q) = true → false = true) ∧ ((!ByteArray.toList (strOf (Array.toList (Array.extract bs (0 : Nat) ((0 : Nat) + k)))) == ByteArray.toList q) = false → Q (0 : Int) ∧ CallKind.normal = CallKind.normal ∧ TodoOk (ren 3 [(3, 3), (4, 4)]) s2T0 s2T0 ∧ P = P ∧ n = n ∧ k = k ∧ P' = P' ∧ o = o ∧ n' = n' ∧ Value.string q = Value.string q ∧ P = P ∧ Value.string (strOf (Array.toList (Array.extract bs (0 : Nat) ((0 : Nat) + k)))) = Value.string (strOf (Array.toList (Array.extract bs (0 : Nat) ((0 : Nat) + k)))) ∧ ((↑n : Int) != (↑n' : Int)) = ((↑n : Int) != (↑n' : Int)) ∧ (0 : Int) = (0 : Int) ∧ P' = P' ∧ (↑n' : Int) = (↑n' : Int) ∧ Value.string q = Value.string q ∧ n = n ∧ o = o ∧ n' = n' ∧ (P != P') = (P != P') ∧ ((↑n : Int) != (↑n' : Int)) = ((↑n : Int) != (↑n' : Int)) ∧ ((match mkSB (false && false) !ByteArray.toList (strOf (Array.toList (Array.extract bs (0 : Nat) ((0 : Nat) + k)))) == ByteArray.toList q with | SB.l b => b | SB.o b => b) = match mkSB (false && false) !ByteArray.toList (strOf (Array.toList (Array.extract bs (0 : Nat) ((0 : Nat) + k)))) == ByteArray.toList q with | SB.l b => b | SB.o b => b) ∧ (↑n : Int) = (↑n : Int) ∧ k = k ∧ ty = ty ∧ rs = rs ∧ tz = tz ∧ cs = cs ∧ (32 : Nat) = (32 : Nat) ∧ P = P ∧ n = n ∧ k = k ∧ tb = tb ∧ bs = bs ∧ (24 : Nat) = (24 : Nat) ∧ P' = P' ∧ o = o ∧ n' = n' ∧ Value.string q = Value.string q ∧ True)) ∧ ((((↑n : Int) != (↑n' : Int)) == false) = false → false = true)) ∧ (((P != P') == false) = false → false = true)) := by kernel_rfl
theorem s2_start_f (P : Int) (n k : Nat) (P' : Int) (o n' : Nat) (q : ByteArray) (rs cs bs : Array Value) (ty tz tb : TypeId) (Q : Int → Prop) : (gR EV 2 (smC P n (smB false k) P' o n' q) (s2M false rs cs bs ty tz tb)).vc (boolR true) (s2N false false P n k P' o n' q rs cs bs ty tz tb Q) =
    ((((P != P') == false) = true → ((((↑n : Int) != (↑n' : Int)) == false) = true → ((!ByteArray.toList ByteArray.empty == ByteArray.toList q) = true → false = true) ∧ ((!ByteArray.toList ByteArray.empty == ByteArray.toList q) = false → Q (0 : Int) ∧ CallKind.normal = CallKind.normal ∧ TodoOk (ren 2 [(2, 2), (3, 3)]) s2T0 s2T0 ∧ P = P ∧ n = n ∧ Value.slice none (0 : Nat) (0 : Nat) = Value.slice none (0 : Nat) (0 : Nat) ∧ P' = P' ∧ o = o ∧ n' = n' ∧ Value.string q = Value.string q ∧ P = P ∧ Value.string ByteArray.empty = Value.string ByteArray.empty ∧ ((↑n : Int) != (↑n' : Int)) = ((↑n : Int) != (↑n' : Int)) ∧ (0 : Int) = (0 : Int) ∧ P' = P' ∧ (↑n' : Int) = (↑n' : Int) ∧ Value.string q = Value.string q ∧ n = n ∧ o = o ∧ n' = n' ∧ (P != P') = (P != P') ∧ ((↑n : Int) != (↑n' : Int)) = ((↑n : Int) != (↑n' : Int)) ∧ ((match mkSB (true && false) !ByteArray.toList ByteArray.empty == ByteArray.toList q with | SB.l b => b | SB.o b => b) = match mkSB (true && false) !ByteArray.toList ByteArray.empty == ByteArray.toList q with | SB.l b => b | SB.o b => b) ∧ (↑n : Int) = (↑n : Int) ∧ Value.slice none (0 : Nat) (0 : Nat) = Value.slice none (0 : Nat) (0 : Nat) ∧ ty = ty ∧ rs = rs ∧ tz = tz ∧ cs = cs ∧ (24 : Nat) = (24 : Nat) ∧ P' = P' ∧ o = o ∧ n' = n' ∧ Value.string q = Value.string q ∧ (32 : Nat) = (32 : Nat) ∧ P = P ∧ n = n ∧ Value.slice none (0 : Nat) (0 : Nat) = Value.slice none (0 : Nat) (0 : Nat) ∧ True)) ∧ ((((↑n : Int) != (↑n' : Int)) == false) = false → false = true)) ∧ (((P != P') == false) = false → false = true)) := by kernel_rfl
theorem s2_step_t (P : Int) (n k : Nat) (P' : Int) (o n' : Nat) (q : ByteArray) (rs cs bs : Array Value) (ty tz tb : TypeId) (i : Int) (Q : Int → Prop) : (gS EV 3 (smC P n (smB true k) P' o n' q) (s2M true rs cs bs ty tz tb) [(5, i64 (.o i))] []).vc (boolR true) (s2N true true P n k P' o n' q rs cs bs ty tz tb Q) =
    ((decide (i < (↑n : Int)) = true → (((0 : Int) ≤ i ∧ i < (↑n : Int)) ∧ True) ∧ (rs[(0 : Nat) + Int.toNat i * 1]? = some (Value.string (strAt rs ((0 : Nat) + Int.toNat i * 1))) ∧ True) ∧ (((0 : Int) ≤ i ∧ i < (↑n' : Int)) ∧ True) ∧ (cs[o + Int.toNat i * 1]? = some (Value.string (strAt cs (o + Int.toNat i * 1))) ∧ True) ∧ ((!ByteArray.toList (strAt rs ((0 : Nat) + Int.toNat i * 1)) == ByteArray.toList (strAt cs (o + Int.toNat i * 1))) = true → false = true) ∧ ((!ByteArray.toList (strAt rs ((0 : Nat) + Int.toNat i * 1)) == ByteArray.toList (strAt cs (o + Int.toNat i * 1))) = false → Q (ari BinOp.add IntKind.i64 i (1 : Int)) ∧ CallKind.normal = CallKind.normal ∧ TodoOk (ren 3 [(3, 3), (4, 4)]) s2H0 s2H0 ∧ P = P ∧ n = n ∧ k = k ∧ P' = P' ∧ o = o ∧ n' = n' ∧ Value.string q = Value.string q ∧ P = P ∧ Value.string (strOf (Array.toList (Array.extract bs (0 : Nat) ((0 : Nat) + k)))) = Value.string (strOf (Array.toList (Array.extract bs (0 : Nat) ((0 : Nat) + k)))) ∧ ((↑n : Int) != (↑n' : Int)) = ((↑n : Int) != (↑n' : Int)) ∧ ari BinOp.add IntKind.i64 i (1 : Int) = ari BinOp.add IntKind.i64 i (1 : Int) ∧ P' = P' ∧ (↑n' : Int) = (↑n' : Int) ∧ Value.string q = Value.string q ∧ n = n ∧ o = o ∧ n' = n' ∧ (P != P') = (P != P') ∧ ((↑n : Int) != (↑n' : Int)) = ((↑n : Int) != (↑n' : Int)) ∧ ((match mkSB (false && false) !ByteArray.toList (strOf (Array.toList (Array.extract bs (0 : Nat) ((0 : Nat) + k)))) == ByteArray.toList q with | SB.l b => b | SB.o b => b) = match mkSB (false && false) !ByteArray.toList (strOf (Array.toList (Array.extract bs (0 : Nat) ((0 : Nat) + k)))) == ByteArray.toList q with | SB.l b => b | SB.o b => b) ∧ (↑n : Int) = (↑n : Int) ∧ k = k ∧ ty = ty ∧ rs = rs ∧ tz = tz ∧ cs = cs ∧ (32 : Nat) = (32 : Nat) ∧ P = P ∧ n = n ∧ k = k ∧ tb = tb ∧ bs = bs ∧ (24 : Nat) = (24 : Nat) ∧ P' = P' ∧ o = o ∧ n' = n' ∧ Value.string q = Value.string q ∧ True)) ∧ (decide (i < (↑n : Int)) = false → true = true)) := by kernel_rfl
theorem s2_step_f (P : Int) (n k : Nat) (P' : Int) (o n' : Nat) (q : ByteArray) (rs cs bs : Array Value) (ty tz tb : TypeId) (i : Int) (Q : Int → Prop) : (gS EV 2 (smC P n (smB false k) P' o n' q) (s2M false rs cs bs ty tz tb) [(5, i64 (.o i))] []).vc (boolR true) (s2N true false P n k P' o n' q rs cs bs ty tz tb Q) =
    ((decide (i < (↑n : Int)) = true → (((0 : Int) ≤ i ∧ i < (↑n : Int)) ∧ True) ∧ (rs[(0 : Nat) + Int.toNat i * 1]? = some (Value.string (strAt rs ((0 : Nat) + Int.toNat i * 1))) ∧ True) ∧ (((0 : Int) ≤ i ∧ i < (↑n' : Int)) ∧ True) ∧ (cs[o + Int.toNat i * 1]? = some (Value.string (strAt cs (o + Int.toNat i * 1))) ∧ True) ∧ ((!ByteArray.toList (strAt rs ((0 : Nat) + Int.toNat i * 1)) == ByteArray.toList (strAt cs (o + Int.toNat i * 1))) = true → false = true) ∧ ((!ByteArray.toList (strAt rs ((0 : Nat) + Int.toNat i * 1)) == ByteArray.toList (strAt cs (o + Int.toNat i * 1))) = false → Q (ari BinOp.add IntKind.i64 i (1 : Int)) ∧ CallKind.normal = CallKind.normal ∧ TodoOk (ren 2 [(2, 2), (3, 3)]) s2H0 s2H0 ∧ P = P ∧ n = n ∧ Value.slice none (0 : Nat) (0 : Nat) = Value.slice none (0 : Nat) (0 : Nat) ∧ P' = P' ∧ o = o ∧ n' = n' ∧ Value.string q = Value.string q ∧ P = P ∧ Value.string ByteArray.empty = Value.string ByteArray.empty ∧ ((↑n : Int) != (↑n' : Int)) = ((↑n : Int) != (↑n' : Int)) ∧ ari BinOp.add IntKind.i64 i (1 : Int) = ari BinOp.add IntKind.i64 i (1 : Int) ∧ P' = P' ∧ (↑n' : Int) = (↑n' : Int) ∧ Value.string q = Value.string q ∧ n = n ∧ o = o ∧ n' = n' ∧ (P != P') = (P != P') ∧ ((↑n : Int) != (↑n' : Int)) = ((↑n : Int) != (↑n' : Int)) ∧ ((match mkSB (true && false) !ByteArray.toList ByteArray.empty == ByteArray.toList q with | SB.l b => b | SB.o b => b) = match mkSB (true && false) !ByteArray.toList ByteArray.empty == ByteArray.toList q with | SB.l b => b | SB.o b => b) ∧ (↑n : Int) = (↑n : Int) ∧ Value.slice none (0 : Nat) (0 : Nat) = Value.slice none (0 : Nat) (0 : Nat) ∧ ty = ty ∧ rs = rs ∧ tz = tz ∧ cs = cs ∧ (24 : Nat) = (24 : Nat) ∧ P' = P' ∧ o = o ∧ n' = n' ∧ Value.string q = Value.string q ∧ (32 : Nat) = (32 : Nat) ∧ P = P ∧ n = n ∧ Value.slice none (0 : Nat) (0 : Nat) = Value.slice none (0 : Nat) (0 : Nat) ∧ True)) ∧ (decide (i < (↑n : Int)) = false → true = true)) := by kernel_rfl
end Go.Proofs.Ytgljggoaadgddaa
/- Of script: the reference's Decode answers as it is told; Same of two rows of one's own. No condition. -/
namespace Go.Proofs.Ytgljggoaadgddaa
set_option linter.unusedSectionVars false
set_option linter.unusedVariables false
set_option maxRecDepth 100000
/-! The reference's May, as a contract. -/
theorem fnU9 : E0.fn 9 = some Try.f9 := by kernel_rfl
theorem bodyU9 : Try.f9.body = some (Try.f9.body.getD .skip) := by kernel_rfl
theorem m9M0 {P : Int} {x : SC} {q : ByteArray} (hx : x = nilC ∨ x = .f .e0) (m : SMem) : Con E0 9 [refV P x q] m (.ret (sB (.l false)) m) := by
  refine Con.ro E0_ok (l := [refV P x q]) (l' := [refV P x q]) (ms := M0) (m := m) (q := []) (A := boolR false) fnU9 bodyU9 rfl (fun i => i) (fun i b hb => by
    have hb : (Tr.nil : Tr SBlk).get i = some b := hb
    rw [Tr.get_nil] at hb; cases hb) (fun R vs ha => ?_) (fun _ => m9_none P q x hx) (fun s m' R R' v h hv => ?_)
  · rcases hx with rfl | rfl
    · match vs, ha with
      | [v], ha => exact ⟨agg3 ha.1 (fun _ h => h) (fun _ h => h) (fun _ h => h), trivial⟩
    · match vs, ha with
      | [v], ha => exact ⟨agg3 ha.1 (fun _ h => h) (fun _ h => h) (fun _ h => h), trivial⟩
  · unfold boolR at h
    split at h
    · rename_i x
      have hv : v = .bool x.den := hv
      rw [h] at hv
      exact hv
    · exact h.elim
theorem m9T_ok {m : SMem} {x : SV} {t : Tree} (h : m9T m x = some t) : Con E0 9 [x] m t := by
  unfold m9T at h
  split at h
  · rename_i P i o n c q
    split at h
    · rename_i v cs hr
      cases h
      obtain ⟨ty, wr, hb⟩ := rowV_of hr
      refine Con.ro E0_ok (l' := [refV P (slC 0 o.den n.den) q]) (ms := prM v cs ty) (A := boolR (mayS P o.den n.den q.size cs (celA q))) fnU9 bodyU9 rfl (fun _ => i) ?_ ?_ (fun hq => m9_good P o.den n.den q cs ty v (hq _ (List.mem_cons_self ..))) (fun _ _ _ _ _ => boolR_con)
      · intro j b hj
        obtain ⟨rfl, rfl⟩ := prM_get hj
        exact ⟨Nat.zero_lt_one, rfl, _, hb, rfl, fun R cs' h => prA_pull R cs' h⟩
      · intro R vs ha
        match vs, ha with
        | [u], ha => exact ⟨agg3 ha.1 (fun _ h => h) (fun _ h => sl_pull h Nat.zero_lt_one rfl rfl) (fun _ h => h), trivial⟩
    · cases h
  · cases h
    exact m9M0 (.inr rfl) m
  · cases h
    exact m9M0 (.inl rfl) m
  · cases h
theorem conJ_ok (g : FuncId) (l : List SV) (m : SMem) (t : Tree) (h : conJ g l m = some t) : Con E0 g l m t := by
  unfold conJ at h
  split at h
  · exact m9T_ok h
  · cases h
theorem EJ_ok : EnvOk EJ := EnvOk.with E0_ok _ _ conJ_ok
theorem EJn_ok : EnvOk EJn := EnvOk.with E0_ok _ _ conJ_ok
/-! Decode. -/
theorem fT0_ok : TodoOk (ren 0 [(0, 0), (1, 1)]) fT0 fT0 := TodoOk.same (by kernel_rfl)
theorem fH0_ok (i : Nat) : TodoOk (ren 0 [(0, 0), (1, 1), (2, i)]) fH0 fH0 := TodoOk.same (by kernel_rfl)
theorem fN_good {b : ByteArray} {A : SV → SMem → Prop} {Q1 : Int → Int → Int → Int → Nat → Array Value → Prop}
    (hg1 : ∀ n a i P k rs, Q1 n a i P k rs → Good EJ.P A 0 (headF (fF b n a i)) (fM1 b P k rs)) {fs : List SFr} {m : SMem} (hb : fN b (fun _ _ _ _ => False) Q1 fs m) : Good EJ.P A 0 fs m := by
  unfold fN at hb
  generalize fF b = F at hb hg1
  generalize fM0 b = M at hb
  generalize fM1 b = M1 at hb hg1
  split at hb
  · split at hb
    · exact hb.1.elim
    · split at hb
      · exact Good.of_sub hb.2 (hg1 _ _ _ _ _ _ hb.1)
      · exact hb.elim
    · exact hb.elim
  · exact hb.elim
theorem fM0_next (b : ByteArray) (P : Int) : idFrom 0 (fM0 b P).next = idFrom 0 2 := by kernel_rfl
theorem fN0_good {b : ByteArray} {A : SV → SMem → Prop} {Q0 : Int → Int → Int → Int → Prop} (hg0 : ∀ n a i P, Q0 n a i P → Good EJ.P A 0 (headF (fF b n a i)) (fM0 b P)) {fs : List SFr} {m : SMem} (hb : fN0 b Q0 fs m) : Good EJ.P A 0 fs m := by
  have he := fM0_next b
  unfold fN0 at hb
  generalize fF b = F at hb hg0
  generalize fM0 b = M at hb hg0 he
  split at hb
  · split at hb
    · rename_i n a i P _ _ _ _ _
      rw [← he P] at hb
      exact Good.of_sub hb.2 (Good.head (hg0 _ _ _ _ hb.1))
    · exact hb.elim
  · exact hb.elim
/-- What it shows, by its bytes. -/
def fAb (b : ByteArray) : SV → SMem → Prop := fA (okD b) (byteAt b 0) (numB b) (leftB b) (rowP b (numB b))
theorem prg_size' (b : ByteArray) (j : Nat) : (prg b j).size ≤ 1530 := by
  have := byteAt_range b (posB b j)
  unfold prg
  rw [ext_size, posB]
  omega
theorem rowP_strR (b : ByteArray) {j : Nat} (hj : j < 9223372036854775807) : StrR (rowP b j) 0 j := ⟨hj, fun t ht => by
  rw [Nat.zero_add]
  obtain ⟨h1, h2⟩ := rowP_str (b := b) ht
  have := prg_size' b t
  exact ⟨h2, by rw [h1]; omega⟩⟩
section
variable (b : ByteArray) (hb : b.size < 140737488355328) (h2 : 2 ≤ b.size)
include hb h2
theorem f_pos {j : Nat} (hp : posB b j < b.size) : ari BinOp.add IntKind.i64 ((posB b j : Nat) : Int) 1 = ((posB b j + 1 : Nat) : Int) ∧ ari BinOp.add IntKind.i64 ((posB b j + 1 : Nat) : Int) (ari BinOp.mul IntKind.i64 6 (IntKind.wrap IntKind.i64 (byteAt b (posB b j)))) = ((posB b (j + 1) : Nat) : Int) := by
  have hr := byteAt_range b (posB b j)
  refine ⟨by rw [ari_add]; exact i64_nat (by omega), ?_⟩
  rw [byte_mul hr, ari_add, posB, Go.IntWalk.i64_in _ (by omega)]
  omega
theorem f_round : ∀ (K j : Nat), numB b - j < K → 1 ≤ j → j ≤ numB b → fitsB b j = true → Good EJ.P (fAb b) 0 (headF (fF b (numB b : Int) (posB b j : Int) (j : Int))) (fM1 b (byteAt b 0) j (rowP b j)) := by
  intro K
  induction K with
  | zero => intro j h; omega
  | succ K ih =>
    intro j hk hj1 hj hf
    have hn255 : numB b ≤ 255 := (numB_le b).1
    have hp := pos_le h2 hf
    refine past_vc EJ_ok 1000 (f_step b (byteAt b 0) (numB b : Int) (posB b j : Int) (j : Int) j (rowP b j) _ _ _ _ _ (fun _ _ _ _ => False) (fun n' a' i' P' k' rs' => ∃ t : Nat, n' = (numB b : Int) ∧ a' = (posB b t : Int) ∧ i' = t ∧ P' = byteAt b 0 ∧ k' = t ∧ rs' = rowP b t ∧ numB b - t < K ∧ 1 ≤ t ∧ t ≤ numB b ∧ fitsB b t = true)) ?_ (fun _ _ h => h)
      (fun fs m hb' => fN_good (fun n' a' i' P' k' rs' ⟨t, e1, e2, e3, e4, e5, e6, q1, q2, q3, q4⟩ => by rw [e1, e2, e3, e4, e5, e6]; exact ih t q1 q2 q3 q4) hb')
    rw [Int.toNat_natCast]
    refine ⟨fun h => ⟨fun h1 => ?_, fun h1 => ?_⟩, fun h => ?_⟩
    · have hlt : j < numB b := by have := of_decide_eq_true h; omega
      have h1 := of_decide_eq_true h1
      exact ⟨okD_no hlt (by unfold fitsB; rw [hf, Bool.true_and]; exact decide_eq_false (by omega)), rfl, rfl, trivial⟩
    · have hlt : j < numB b := by have := of_decide_eq_true h; omega
      have h1 := of_decide_eq_false h1
      have hpj : posB b j < b.size := by omega
      obtain ⟨a1, a2⟩ := f_pos b hb h2 hpj
      rw [a1, a2, Int.toNat_natCast, Int.toNat_natCast]
      refine ⟨⟨⟨by omega, by omega⟩, trivial⟩, fun h3 => ?_, fun h3 => ?_⟩
      · have h3 := of_decide_eq_true h3
        exact ⟨okD_no hlt (by unfold fitsB; rw [hf, Bool.true_and]; exact decide_eq_false (by omega)), rfl, rfl, trivial⟩
      · have h3 := of_decide_eq_false h3
        have hf' : fitsB b (j + 1) = true := by
          unfold fitsB
          rw [hf, Bool.true_and]
          exact decide_eq_true ⟨hpj, by omega⟩
        have eA : ari BinOp.add IntKind.i64 (j : Int) 1 = ((j + 1 : Nat) : Int) := by rw [ari_add, i64_nat (show j < 9223372036854775807 by omega)]
        rw [eA]
        refine ⟨⟨by omega, by omega, by omega, by rw [posB]; omega, trivial⟩, ⟨⟨by omega, by omega⟩, by rw [rowP_size]; omega, trivial⟩, ⟨j + 1, rfl, rfl, rfl, rfl, rfl, rfl, by omega, by omega, by omega, hf'⟩, ?_⟩
        repeat' first | exact trivial | exact fH0_ok _ | apply And.intro | exact rfl
    · have hjn : j = numB b := by have := of_decide_eq_false h; omega
      have hok : okD b = mayS (byteAt b 0) 0 (numB b) (leftB b).size (rowP b (numB b)) (celA (leftB b)) := by
        unfold okD
        rw [decide_eq_true h2, ← hjn, hf]
        rfl
      have hL : b.extract (posB b j) b.size = leftB b := by rw [hjn]; rfl
      rw [hL, hjn]
      refine ⟨⟨by omega, by rw [← hjn]; exact hp, trivial⟩, ⟨rowP_strR b (by omega), trivial⟩, fun hm => ⟨?_, rfl, rfl, trivial⟩, fun hm => ⟨?_, ?_⟩⟩
      · rw [hok]
        simpa using hm
      · rw [hok]
        simpa using hm
      · repeat' first | exact trivial | apply And.intro | exact rfl
theorem f_first' : Good EJ.P (fAb b) 0 (headF (fF b (numB b : Int) (posB b 0 : Int) 0)) (fM0 b (byteAt b 0)) := by
  have hn255 : numB b ≤ 255 := (numB_le b).1
  have hp : posB b 0 ≤ b.size := h2
  have hf : fitsB b 0 = true := rfl
  refine past_vc EJ_ok 1000 (f_first b (byteAt b 0) (numB b : Int) (posB b 0 : Int) 0 _ _ _ _ _ (fun _ _ _ _ => False) (fun n' a' i' P' k' rs' => n' = (numB b : Int) ∧ a' = (posB b 1 : Int) ∧ i' = ((1 : Nat) : Int) ∧ P' = byteAt b 0 ∧ k' = 1 ∧ rs' = rowP b 1 ∧ 1 ≤ numB b ∧ fitsB b 1 = true)) ?_ (fun _ _ h => h)
    (fun fs m hb' => fN_good (fun n' a' i' P' k' rs' ⟨e1, e2, e3, e4, e5, e6, q1, q2⟩ => by rw [e1, e2, e3, e4, e5, e6]; exact f_round b hb h2 (numB b + 1) 1 (by omega) (by omega) q1 q2) hb')
  rw [Int.toNat_natCast]
  refine ⟨fun h => ⟨fun h1 => ?_, fun h1 => ?_⟩, fun h => ?_⟩
  · have hlt : 0 < numB b := by have := of_decide_eq_true h; omega
    have h1 := of_decide_eq_true h1
    exact ⟨okD_no hlt (by unfold fitsB; rw [hf, Bool.true_and]; exact decide_eq_false (show ¬ (posB b 0 < b.size ∧ posB b 1 ≤ b.size) from by omega)), rfl, rfl, trivial⟩
  · have hlt : 0 < numB b := by have := of_decide_eq_true h; omega
    have h1 := of_decide_eq_false h1
    have hpj : posB b 0 < b.size := by omega
    obtain ⟨a1, a2⟩ := f_pos b hb h2 hpj
    have a2 : ari BinOp.add IntKind.i64 ((posB b 0 + 1 : Nat) : Int) (ari BinOp.mul IntKind.i64 6 (IntKind.wrap IntKind.i64 (byteAt b (posB b 0)))) = ((posB b 1 : Nat) : Int) := a2
    have hpp : posB b 1 = posB b 0 + 1 + 6 * (byteAt b (posB b 0)).toNat := rfl
    rw [a1, a2, Int.toNat_natCast, Int.toNat_natCast]
    refine ⟨⟨⟨by omega, by omega⟩, trivial⟩, fun h3 => ?_, fun h3 => ?_⟩
    · have h3 := of_decide_eq_true h3
      exact ⟨okD_no hlt (by unfold fitsB; rw [hf, Bool.true_and]; exact decide_eq_false (show ¬ (posB b 0 < b.size ∧ posB b 1 ≤ b.size) from by omega)), rfl, rfl, trivial⟩
    · have h3 := of_decide_eq_false h3
      have hf' : fitsB b 1 = true := by
        unfold fitsB
        rw [hf, Bool.true_and]
        exact decide_eq_true (show posB b 0 < b.size ∧ posB b 1 ≤ b.size from ⟨hpj, by omega⟩)
      have eA : ari BinOp.add IntKind.i64 (0 : Int) 1 = ((1 : Nat) : Int) := by rw [ari_add]; exact i64_nat (k := 0) (by omega)
      rw [eA]
      have hrow : #[Value.string (b.extract (posB b 0 + 1) (posB b 1))] = rowP b 1 := by
        show _ = #[] ++ #[Value.string (prg b 0)]
        rw [Array.empty_append]
        rfl
      refine ⟨⟨by omega, by omega, by omega, by omega, trivial⟩, ⟨rfl, rfl, rfl, rfl, rfl, hrow, by omega, hf'⟩, ?_⟩
      repeat' first | exact trivial | exact fH0_ok _ | apply And.intro | exact rfl
  · have h0 : numB b = 0 := by have := of_decide_eq_false h; omega
    have hno : okD b = false := by
      unfold okD mayS
      rw [decide_eq_false (p := 1 ≤ byteAt b 0 ∧ byteAt b 0 ≤ 64 ∧ 1 ≤ numB b ∧ numB b ≤ 8 ∧ (leftB b).size ≤ 4000) (by omega)]
      simp
    exact ⟨⟨by omega, hp, trivial⟩, hno, rfl, rfl, trivial⟩
theorem f_two : Good Try.prog (fAb b) 0 (fC b) M0 := by
  refine run_vc EJ_ok 1000 (f_start b _ _ _ _ _ (fun n a i P => n = (numB b : Int) ∧ a = (posB b 0 : Int) ∧ i = 0 ∧ P = byteAt b 0)) ?_ (fun _ _ h => h)
    (fun fs m hb' => fN0_good (fun n a i P ⟨e1, e2, e3, e4⟩ => by rw [e1, e2, e3, e4]; exact f_first' b hb h2) hb')
  have r0 := byteAt_range b 0
  have r1 := byteAt_range b 1
  refine ⟨fun h => ?_, fun _ => ⟨⟨⟨by omega, by omega⟩, trivial⟩, ⟨⟨by omega, by omega⟩, trivial⟩, ⟨?_, rfl, rfl, Go.IntWalk.i64_in _ (by omega)⟩, ?_⟩⟩
  · have := of_decide_eq_true h
    omega
  · rw [Go.IntWalk.i64_in _ (by omega)]
    exact (numB_le b).2.symm
  · repeat' first | exact trivial | exact fT0_ok | apply And.intro | exact rfl
end
theorem f_small (b : ByteArray) (h2 : ¬ 2 ≤ b.size) : Good Try.prog (fAb b) 0 (fC b) M0 := by
  have hno : okD b = false := by
    unfold okD
    rw [decide_eq_false h2]
    rfl
  refine run_way EJn_ok 1000 (f_none b _ _ _ _ _) ?_ (fun _ _ h => h) (fun _ _ h => h.elim)
  exact ⟨decide_eq_true (by omega), hno, rfl, rfl, trivial⟩
theorem f_every (b : ByteArray) (hb : b.size < 140737488355328) : Good Try.prog (fAb b) 0 (fC b) M0 := by
  by_cases h2 : 2 ≤ b.size
  · exact f_two b hb h2
  · exact f_small b h2
/-! Same. -/
theorem s2T0_3 : TodoOk (ren 3 [(3, 3), (4, 4)]) s2T0 s2T0 := TodoOk.same (by kernel_rfl)
theorem s2T0_2 : TodoOk (ren 2 [(2, 2), (3, 3)]) s2T0 s2T0 := TodoOk.same (by kernel_rfl)
theorem s2H0_3 : TodoOk (ren 3 [(3, 3), (4, 4)]) s2H0 s2H0 := TodoOk.same (by kernel_rfl)
theorem s2H0_2 : TodoOk (ren 2 [(2, 2), (3, 3)]) s2H0 s2H0 := TodoOk.same (by kernel_rfl)
theorem s2N_good {h w : Bool} {P P' : Int} {n k o n' : Nat} {q : ByteArray} {rs cs bs : Array Value} {ty tz tb : TypeId} {A : SV → SMem → Prop} {Q : Int → Prop} (hg : ∀ i, Q i → Good EV.P A (smb w) (gH EV (smb w) (smC P n (smB w k) P' o n' q) (s2M w rs cs bs ty tz tb) [(5, i64 (.o i))]) (gM EV (smb w) (smC P n (smB w k) P' o n' q) (s2M w rs cs bs ty tz tb) [])) {fs : List SFr} {m : SMem} (hb : s2N h w P n k P' o n' q rs cs bs ty tz tb Q fs m) : Good EV.P A (smb w) fs m := by
  unfold s2N at hb
  split at hb
  · split at hb
    · exact gN_good hb.2 (hg _ hb.1)
    · exact hb.elim
  · exact hb.elim
section
variable (P : Int) (n k o : Nat) (q : ByteArray) (rs cs bs : Array Value) (ty tz tb : TypeId)
theorem s2_round_t (hR : RowEq rs cs o n) : ∀ (K j : Nat), n - j < K → j ≤ n → Good EV.P (boolR true) 3 (gH EV 3 (smC P n (smB true k) P o n q) (s2M true rs cs bs ty tz tb) [(5, i64 (.o j))]) (gM EV 3 (smC P n (smB true k) P o n q) (s2M true rs cs bs ty tz tb) []) := by
  intro K
  induction K with
  | zero => intro j h; omega
  | succ K ih =>
    intro j hk hj
    refine past_vc EV_ok 1000 (s2_step_t P n k P o n q rs cs bs ty tz tb j (fun i' => ∃ t : Nat, i' = t ∧ n - t < K ∧ t ≤ n)) ?_ (fun _ _ h => h)
      (fun fs m hb => s2N_good (w := true) (fun i' ⟨t, e, k1, k2⟩ => by rw [e]; exact ih t k1 k2) hb)
    have hn := hR.1
    rw [Int.toNat_natCast, Nat.mul_one, Nat.zero_add]
    refine ⟨fun h => ?_, fun h => rfl⟩
    have hlt : j < n := by simpa using h
    obtain ⟨i1, i2, i3⟩ := hR.2 j hlt
    refine ⟨⟨⟨by omega, by omega⟩, trivial⟩, ⟨i1, trivial⟩, ⟨⟨by omega, by omega⟩, trivial⟩, ⟨i2, trivial⟩, fun hb => ?_, fun hb => ?_⟩
    · rw [i3] at hb
      simp at hb
    · rw [ari_add, i64_nat (show j < 9223372036854775807 by omega)]
      refine ⟨⟨j + 1, rfl, by omega, by omega⟩, ?_⟩
      repeat' first | exact trivial | exact s2H0_3 | apply And.intro | exact rfl
theorem s2_good_t (hR : RowEq rs cs o n) (hP : PickEq true k bs q) : Good Try.prog (boolR true) 3 (smC P n (smB true k) P o n q) (s2M true rs cs bs ty tz tb) := by
  have hP : k ≤ bs.size ∧ AllU8 (bs.extract 0 k).toList ∧ strOf (bs.extract 0 k).toList = q := hP
  refine run_vc EV_ok 1000 (s2_start_t P n k P o n q rs cs bs ty tz tb (fun i => i = ((0 : Nat) : Int))) ?_ (fun _ _ h => h)
    (fun fs m hb => s2N_good (w := true) (fun i e => by rw [e]; exact s2_round_t P n k o q rs cs bs ty tz tb hR (n + 1) 0 (by omega) (by omega)) hb)
  · skip
    refine ⟨fun _ => ⟨fun _ => ⟨⟨by omega, by rw [Nat.zero_add]; exact hP.2.1, trivial⟩, fun h => ?_, fun _ => ?_⟩, fun h => ?_⟩, fun h => ?_⟩
    · rw [Nat.zero_add, hP.2.2] at h
      simp at h
    · repeat' first | exact trivial | exact s2T0_3 | apply And.intro | exact rfl
    · simp at h
    · simp at h
theorem s2_round_f (hR : RowEq rs cs o n) : ∀ (K j : Nat), n - j < K → j ≤ n → Good EV.P (boolR true) 2 (gH EV 2 (smC P n (smB false k) P o n q) (s2M false rs cs bs ty tz tb) [(5, i64 (.o j))]) (gM EV 2 (smC P n (smB false k) P o n q) (s2M false rs cs bs ty tz tb) []) := by
  intro K
  induction K with
  | zero => intro j h; omega
  | succ K ih =>
    intro j hk hj
    refine past_vc EV_ok 1000 (s2_step_f P n k P o n q rs cs bs ty tz tb j (fun i' => ∃ t : Nat, i' = t ∧ n - t < K ∧ t ≤ n)) ?_ (fun _ _ h => h)
      (fun fs m hb => s2N_good (w := false) (fun i' ⟨t, e, k1, k2⟩ => by rw [e]; exact ih t k1 k2) hb)
    have hn := hR.1
    rw [Int.toNat_natCast, Nat.mul_one, Nat.zero_add]
    refine ⟨fun h => ?_, fun h => rfl⟩
    have hlt : j < n := by simpa using h
    obtain ⟨i1, i2, i3⟩ := hR.2 j hlt
    refine ⟨⟨⟨by omega, by omega⟩, trivial⟩, ⟨i1, trivial⟩, ⟨⟨by omega, by omega⟩, trivial⟩, ⟨i2, trivial⟩, fun hb => ?_, fun hb => ?_⟩
    · rw [i3] at hb
      simp at hb
    · rw [ari_add, i64_nat (show j < 9223372036854775807 by omega)]
      refine ⟨⟨j + 1, rfl, by omega, by omega⟩, ?_⟩
      repeat' first | exact trivial | exact s2H0_2 | apply And.intro | exact rfl
theorem s2_good_f (hR : RowEq rs cs o n) (hP : PickEq false k bs q) : Good Try.prog (boolR true) 2 (smC P n (smB false k) P o n q) (s2M false rs cs bs ty tz tb) := by
  have hP : q.size = 0 := hP
  refine run_vc EV_ok 1000 (s2_start_f P n k P o n q rs cs bs ty tz tb (fun i => i = ((0 : Nat) : Int))) ?_ (fun _ _ h => h)
    (fun fs m hb => s2N_good (w := false) (fun i e => by rw [e]; exact s2_round_f P n k o q rs cs bs ty tz tb hR (n + 1) 0 (by omega) (by omega)) hb)
  · skip
    have e0 := str_empty hP
    refine ⟨fun _ => ⟨fun _ => ⟨fun h => ?_, fun _ => ?_⟩, fun h => ?_⟩, fun h => ?_⟩
    · rw [e0] at h
      exact absurd h (by decide +kernel)
    · repeat' first | exact trivial | exact s2T0_2 | apply And.intro | exact rfl
    · simp at h
    · simp at h
end
end Go.Proofs.Ytgljggoaadgddaa
/- Of script: the contracts, and ScriptTells' states. No condition. -/
namespace Go.Proofs.Ytgljggoaadgddaa
noncomputable section
def b11T (m : SMem) : SV → Option Tree
  | .s (.agg (.ls [.f (.int .i64 (.o P)), .f (.slice i o n _), .f (.opq (.string q))])) => match rowV m i with
    | some (true, cs) => some (needs [StrOk cs o.den n.den, mayS P o.den n.den q.size cs (celA q) = true] (.ret (.s (.c (.f (.opq (.string (encS P o.den n.den q.size cs (celA q))))))) m))
    | _ => none
  | _ => none
def resF : SV := .tup [.agg (.ls [.f (.int .i64 (.l 0)), nilC, .f (.lit (.string ⟨⟨[]⟩⟩))]), .c (.f (.bool (.l false)))]
def decT13 (m : SMem) : SV → Option Tree
  | .s (.c (.f (.opq (.string b)))) => some (needs [b.size < 140737488355328] (.br (okD b)
      (.ret ((resR (byteAt b 0) (numB b) (leftB b)).re (sh m.next)) (ins2 m (resM false (rowP b (numB b)) #[])))
      (.ret resF m)))
  | _ => none
def same2T (m : SMem) : SV → SV → Option Tree
  | .s (.agg (.ls [.f (.int .i64 (.o P)), .f (.slice i (.l 0) n _), .f (.slice j (.l 0) k _)])), .s (.agg (.ls [.f (.int .i64 (.o P')), .f (.slice i' o' n' _), .f (.opq (.string q))])) => match rowV m i, rowV m j, rowV m i' with
    | some (false, rs), some (false, bs), some (false, cs) => some (needs [P = P', n.den = n'.den, RowEq rs cs o'.den n.den, PickEq true k.den bs q] (.ret (sB (.l true)) m))
    | _, _, _ => none
  | .s (.agg (.ls [.f (.int .i64 (.o P)), .f (.slice i (.l 0) n _), .f (.lit (.slice none 0 0))])), .s (.agg (.ls [.f (.int .i64 (.o P')), .f (.slice i' o' n' _), .f (.opq (.string q))])) => match rowV m i, rowV m i' with
    | some (false, rs), some (false, cs) => some (needs [P = P', n.den = n'.den, RowEq rs cs o'.den n.den, PickEq false 0 #[] q] (.ret (sB (.l true)) m))
    | _, _ => none
  | _, _ => none
def conT (g : FuncId) (l : List SV) (m : SMem) : Option Tree := match g, l with
  | 9, [x] => m9T m x
  | 11, [x] => b11T m x
  | 13, [x] => decT13 m x
  | 14, [x, y] => same2T m x y
  | g, l => conL' g l m
def ET : Env := ⟨Try.prog, fnOf, conT, fun _ _ _ => false⟩
def tlC (P : Int) (A : SC) (q b : ByteArray) : List SFr := [callFr 3 Try.f3.ntmps [refV P A q, strV' b] (Try.f3.body.getD .skip)]
end
end Go.Proofs.Ytgljggoaadgddaa
/- Of script: ScriptTells' runs, as propositions. No condition. -/
namespace Go.Proofs.Ytgljggoaadgddaa
set_option maxRecDepth 100000
theorem tl_row (P : Int) (o n : Nat) (q b : ByteArray) (cs : Array Value) (ty : TypeId) : (run ET 1000 1 (tlC P (slC 0 o n) q b) (prM true cs ty)).vc (boolR true) (fun _ _ => False) =
    ((StrI cs o n ∧ True) ∧ ((greatV n q cs o == false) = true → (decide (((((ByteArray.size b) : Nat) : Int)) > (8000 : Int)) = true → true = true) ∧ (decide (((((ByteArray.size b) : Nat) : Int)) > (8000 : Int)) = false → (StrOk cs o n ∧ BytOk (Array.map (fun b => Value.int IntKind.u8 (↑(UInt8.toNat b) : Int)) (ByteArray.data q)) (0 : Nat) (ByteArray.size q) ∧ True) ∧ (mayS P o n (ByteArray.size q) cs (Array.map (fun b => Value.int IntKind.u8 (↑(UInt8.toNat b) : Int)) (ByteArray.data q)) = true → (StrR cs o n ∧ True) ∧ (StrOk cs o n ∧ BytOk (Array.map (fun b => Value.int IntKind.u8 (↑(UInt8.toNat b) : Int)) (ByteArray.data q)) (0 : Nat) (ByteArray.size q) ∧ True) ∧ (((!mayS P o n (ByteArray.size q) cs (Array.map (fun b => Value.int IntKind.u8 (↑(UInt8.toNat b) : Int)) (ByteArray.data q)) == mayS P o n (ByteArray.size q) cs (celA q)) == false) = true → ((mayS P o n (ByteArray.size q) cs (celA q) == true) = true → (StrOk cs o n ∧ mayS P o n (ByteArray.size q) cs (celA q) = true ∧ True) ∧ (((match mkSB (false && false) !ByteArray.toList (encS P o n (ByteArray.size q) cs (Array.map (fun b => Value.int IntKind.u8 (↑(UInt8.toNat b) : Int)) (ByteArray.data q))) == ByteArray.toList (encS P o n (ByteArray.size q) cs (celA q)) with | SB.l b => b | SB.o b => b) == false) = true → (((!mayS P o n (ByteArray.size q) cs (celA q)) == true) = true → false = true) ∧ (((!mayS P o n (ByteArray.size q) cs (celA q)) == true) = false → (ByteArray.size b < (140737488355328 : Nat) ∧ True) ∧ (okD b = true → (decide (ByteArray.size (leftB b) ≠ (0 : Nat)) = true → (ByteArray.size b < (140737488355328 : Nat) ∧ True) ∧ (okD b = true → (byteAt b (0 : Nat) = byteAt b (0 : Nat) ∧ numB b = numB b ∧ RowEq (rowP b (numB b)) (rowP b (numB b)) (0 : Nat) (numB b) ∧ PickEq true (ByteArray.size (leftB b)) (celA (leftB b)) (leftB b) ∧ True) ∧ true = true) ∧ (okD b = false → false = true)) ∧ (decide (ByteArray.size (leftB b) ≠ (0 : Nat)) = false → (ByteArray.size b < (140737488355328 : Nat) ∧ True) ∧ (okD b = true → (byteAt b (0 : Nat) = byteAt b (0 : Nat) ∧ numB b = numB b ∧ RowEq (rowP b (numB b)) (rowP b (numB b)) (0 : Nat) (numB b) ∧ PickEq false (0 : Nat) #[] (leftB b) ∧ True) ∧ true = true) ∧ (okD b = false → false = true))) ∧ (okD b = false → (ByteArray.size b < (140737488355328 : Nat) ∧ True) ∧ (okD b = true → false = true) ∧ (okD b = false → true = true)))) ∧ (((match mkSB (false && false) !ByteArray.toList (encS P o n (ByteArray.size q) cs (Array.map (fun b => Value.int IntKind.u8 (↑(UInt8.toNat b) : Int)) (ByteArray.data q))) == ByteArray.toList (encS P o n (ByteArray.size q) cs (celA q)) with | SB.l b => b | SB.o b => b) == false) = false → false = true)) ∧ ((mayS P o n (ByteArray.size q) cs (celA q) == true) = false → (((!mayS P o n (ByteArray.size q) cs (celA q)) == true) = true → false = true) ∧ (((!mayS P o n (ByteArray.size q) cs (celA q)) == true) = false → (ByteArray.size b < (140737488355328 : Nat) ∧ True) ∧ (okD b = true → (decide (ByteArray.size (leftB b) ≠ (0 : Nat)) = true → (ByteArray.size b < (140737488355328 : Nat) ∧ True) ∧ (okD b = true → (byteAt b (0 : Nat) = byteAt b (0 : Nat) ∧ numB b = numB b ∧ RowEq (rowP b (numB b)) (rowP b (numB b)) (0 : Nat) (numB b) ∧ PickEq true (ByteArray.size (leftB b)) (celA (leftB b)) (leftB b) ∧ True) ∧ true = true) ∧ (okD b = false → false = true)) ∧ (decide (ByteArray.size (leftB b) ≠ (0 : Nat)) = false → (ByteArray.size b < (140737488355328 : Nat) ∧ True) ∧ (okD b = true → (byteAt b (0 : Nat) = byteAt b (0 : Nat) ∧ numB b = numB b ∧ RowEq (rowP b (numB b)) (rowP b (numB b)) (0 : Nat) (numB b) ∧ PickEq false (0 : Nat) #[] (leftB b) ∧ True) ∧ true = true) ∧ (okD b = false → false = true))) ∧ (okD b = false → (ByteArray.size b < (140737488355328 : Nat) ∧ True) ∧ (okD b = true → false = true) ∧ (okD b = false → true = true))))) ∧ (((!mayS P o n (ByteArray.size q) cs (Array.map (fun b => Value.int IntKind.u8 (↑(UInt8.toNat b) : Int)) (ByteArray.data q)) == mayS P o n (ByteArray.size q) cs (celA q)) == false) = false → false = true)) ∧ (mayS P o n (ByteArray.size q) cs (Array.map (fun b => Value.int IntKind.u8 (↑(UInt8.toNat b) : Int)) (ByteArray.data q)) = false → (StrR cs o n ∧ True) ∧ (StrOk cs o n ∧ BytOk (Array.map (fun b => Value.int IntKind.u8 (↑(UInt8.toNat b) : Int)) (ByteArray.data q)) (0 : Nat) (ByteArray.size q) ∧ True) ∧ (((!mayS P o n (ByteArray.size q) cs (Array.map (fun b => Value.int IntKind.u8 (↑(UInt8.toNat b) : Int)) (ByteArray.data q)) == mayS P o n (ByteArray.size q) cs (celA q)) == false) = true → ((mayS P o n (ByteArray.size q) cs (celA q) == true) = true → false = true) ∧ ((mayS P o n (ByteArray.size q) cs (celA q) == true) = false → (((!mayS P o n (ByteArray.size q) cs (celA q)) == true) = true → (ByteArray.size b < (140737488355328 : Nat) ∧ True) ∧ (okD b = true → (decide (ByteArray.size (leftB b) ≠ (0 : Nat)) = true → (ByteArray.size b < (140737488355328 : Nat) ∧ True) ∧ (okD b = true → (byteAt b (0 : Nat) = byteAt b (0 : Nat) ∧ numB b = numB b ∧ RowEq (rowP b (numB b)) (rowP b (numB b)) (0 : Nat) (numB b) ∧ PickEq true (ByteArray.size (leftB b)) (celA (leftB b)) (leftB b) ∧ True) ∧ true = true) ∧ (okD b = false → false = true)) ∧ (decide (ByteArray.size (leftB b) ≠ (0 : Nat)) = false → (ByteArray.size b < (140737488355328 : Nat) ∧ True) ∧ (okD b = true → (byteAt b (0 : Nat) = byteAt b (0 : Nat) ∧ numB b = numB b ∧ RowEq (rowP b (numB b)) (rowP b (numB b)) (0 : Nat) (numB b) ∧ PickEq false (0 : Nat) #[] (leftB b) ∧ True) ∧ true = true) ∧ (okD b = false → false = true))) ∧ (okD b = false → (ByteArray.size b < (140737488355328 : Nat) ∧ True) ∧ (okD b = true → false = true) ∧ (okD b = false → true = true))) ∧ (((!mayS P o n (ByteArray.size q) cs (celA q)) == true) = false → (ByteArray.size b < (140737488355328 : Nat) ∧ True) ∧ (okD b = true → (decide (ByteArray.size (leftB b) ≠ (0 : Nat)) = true → (ByteArray.size b < (140737488355328 : Nat) ∧ True) ∧ (okD b = true → (byteAt b (0 : Nat) = byteAt b (0 : Nat) ∧ numB b = numB b ∧ RowEq (rowP b (numB b)) (rowP b (numB b)) (0 : Nat) (numB b) ∧ PickEq true (ByteArray.size (leftB b)) (celA (leftB b)) (leftB b) ∧ True) ∧ true = true) ∧ (okD b = false → false = true)) ∧ (decide (ByteArray.size (leftB b) ≠ (0 : Nat)) = false → (ByteArray.size b < (140737488355328 : Nat) ∧ True) ∧ (okD b = true → (byteAt b (0 : Nat) = byteAt b (0 : Nat) ∧ numB b = numB b ∧ RowEq (rowP b (numB b)) (rowP b (numB b)) (0 : Nat) (numB b) ∧ PickEq false (0 : Nat) #[] (leftB b) ∧ True) ∧ true = true) ∧ (okD b = false → false = true))) ∧ (okD b = false → (ByteArray.size b < (140737488355328 : Nat) ∧ True) ∧ (okD b = true → false = true) ∧ (okD b = false → true = true))))) ∧ (((!mayS P o n (ByteArray.size q) cs (Array.map (fun b => Value.int IntKind.u8 (↑(UInt8.toNat b) : Int)) (ByteArray.data q)) == mayS P o n (ByteArray.size q) cs (celA q)) == false) = false → false = true)))) ∧ ((greatV n q cs o == false) = false → true = true)) := by kernel_rfl
theorem tl_e0 (P : Int) (q b : ByteArray) : (run ET 1000 0 (tlC P (.f .e0) q b) M0).vc (boolR true) (fun _ _ => False) =
    (((decide ((6000 : Nat) < ByteArray.size q) == false) = true → (decide (((((ByteArray.size b) : Nat) : Int)) > (8000 : Int)) = true → true = true) ∧ (decide (((((ByteArray.size b) : Nat) : Int)) > (8000 : Int)) = false → ((decide (P < (1 : Int)) == false) = true → ((decide (P > (64 : Int)) == false) = true → ((decide (P < (1 : Int)) == false) = true → ((decide (P > (64 : Int)) == false) = true → (ByteArray.size b < (140737488355328 : Nat) ∧ True) ∧ (okD b = true → (decide (ByteArray.size (leftB b) ≠ (0 : Nat)) = true → (ByteArray.size b < (140737488355328 : Nat) ∧ True) ∧ (okD b = true → (byteAt b (0 : Nat) = byteAt b (0 : Nat) ∧ numB b = numB b ∧ RowEq (rowP b (numB b)) (rowP b (numB b)) (0 : Nat) (numB b) ∧ PickEq true (ByteArray.size (leftB b)) (celA (leftB b)) (leftB b) ∧ True) ∧ true = true) ∧ (okD b = false → false = true)) ∧ (decide (ByteArray.size (leftB b) ≠ (0 : Nat)) = false → (ByteArray.size b < (140737488355328 : Nat) ∧ True) ∧ (okD b = true → (byteAt b (0 : Nat) = byteAt b (0 : Nat) ∧ numB b = numB b ∧ RowEq (rowP b (numB b)) (rowP b (numB b)) (0 : Nat) (numB b) ∧ PickEq false (0 : Nat) #[] (leftB b) ∧ True) ∧ true = true) ∧ (okD b = false → false = true))) ∧ (okD b = false → (ByteArray.size b < (140737488355328 : Nat) ∧ True) ∧ (okD b = true → false = true) ∧ (okD b = false → true = true))) ∧ ((decide (P > (64 : Int)) == false) = false → (ByteArray.size b < (140737488355328 : Nat) ∧ True) ∧ (okD b = true → (decide (ByteArray.size (leftB b) ≠ (0 : Nat)) = true → (ByteArray.size b < (140737488355328 : Nat) ∧ True) ∧ (okD b = true → (byteAt b (0 : Nat) = byteAt b (0 : Nat) ∧ numB b = numB b ∧ RowEq (rowP b (numB b)) (rowP b (numB b)) (0 : Nat) (numB b) ∧ PickEq true (ByteArray.size (leftB b)) (celA (leftB b)) (leftB b) ∧ True) ∧ true = true) ∧ (okD b = false → false = true)) ∧ (decide (ByteArray.size (leftB b) ≠ (0 : Nat)) = false → (ByteArray.size b < (140737488355328 : Nat) ∧ True) ∧ (okD b = true → (byteAt b (0 : Nat) = byteAt b (0 : Nat) ∧ numB b = numB b ∧ RowEq (rowP b (numB b)) (rowP b (numB b)) (0 : Nat) (numB b) ∧ PickEq false (0 : Nat) #[] (leftB b) ∧ True) ∧ true = true) ∧ (okD b = false → false = true))) ∧ (okD b = false → (ByteArray.size b < (140737488355328 : Nat) ∧ True) ∧ (okD b = true → false = true) ∧ (okD b = false → true = true)))) ∧ ((decide (P < (1 : Int)) == false) = false → (ByteArray.size b < (140737488355328 : Nat) ∧ True) ∧ (okD b = true → (decide (ByteArray.size (leftB b) ≠ (0 : Nat)) = true → (ByteArray.size b < (140737488355328 : Nat) ∧ True) ∧ (okD b = true → (byteAt b (0 : Nat) = byteAt b (0 : Nat) ∧ numB b = numB b ∧ RowEq (rowP b (numB b)) (rowP b (numB b)) (0 : Nat) (numB b) ∧ PickEq true (ByteArray.size (leftB b)) (celA (leftB b)) (leftB b) ∧ True) ∧ true = true) ∧ (okD b = false → false = true)) ∧ (decide (ByteArray.size (leftB b) ≠ (0 : Nat)) = false → (ByteArray.size b < (140737488355328 : Nat) ∧ True) ∧ (okD b = true → (byteAt b (0 : Nat) = byteAt b (0 : Nat) ∧ numB b = numB b ∧ RowEq (rowP b (numB b)) (rowP b (numB b)) (0 : Nat) (numB b) ∧ PickEq false (0 : Nat) #[] (leftB b) ∧ True) ∧ true = true) ∧ (okD b = false → false = true))) ∧ (okD b = false → (ByteArray.size b < (140737488355328 : Nat) ∧ True) ∧ (okD b = true → false = true) ∧ (okD b = false → true = true)))) ∧ ((decide (P > (64 : Int)) == false) = false → ((decide (P < (1 : Int)) == false) = true → ((decide (P > (64 : Int)) == false) = true → (ByteArray.size b < (140737488355328 : Nat) ∧ True) ∧ (okD b = true → (decide (ByteArray.size (leftB b) ≠ (0 : Nat)) = true → (ByteArray.size b < (140737488355328 : Nat) ∧ True) ∧ (okD b = true → (byteAt b (0 : Nat) = byteAt b (0 : Nat) ∧ numB b = numB b ∧ RowEq (rowP b (numB b)) (rowP b (numB b)) (0 : Nat) (numB b) ∧ PickEq true (ByteArray.size (leftB b)) (celA (leftB b)) (leftB b) ∧ True) ∧ true = true) ∧ (okD b = false → false = true)) ∧ (decide (ByteArray.size (leftB b) ≠ (0 : Nat)) = false → (ByteArray.size b < (140737488355328 : Nat) ∧ True) ∧ (okD b = true → (byteAt b (0 : Nat) = byteAt b (0 : Nat) ∧ numB b = numB b ∧ RowEq (rowP b (numB b)) (rowP b (numB b)) (0 : Nat) (numB b) ∧ PickEq false (0 : Nat) #[] (leftB b) ∧ True) ∧ true = true) ∧ (okD b = false → false = true))) ∧ (okD b = false → (ByteArray.size b < (140737488355328 : Nat) ∧ True) ∧ (okD b = true → false = true) ∧ (okD b = false → true = true))) ∧ ((decide (P > (64 : Int)) == false) = false → (ByteArray.size b < (140737488355328 : Nat) ∧ True) ∧ (okD b = true → (decide (ByteArray.size (leftB b) ≠ (0 : Nat)) = true → (ByteArray.size b < (140737488355328 : Nat) ∧ True) ∧ (okD b = true → (byteAt b (0 : Nat) = byteAt b (0 : Nat) ∧ numB b = numB b ∧ RowEq (rowP b (numB b)) (rowP b (numB b)) (0 : Nat) (numB b) ∧ PickEq true (ByteArray.size (leftB b)) (celA (leftB b)) (leftB b) ∧ True) ∧ true = true) ∧ (okD b = false → false = true)) ∧ (decide (ByteArray.size (leftB b) ≠ (0 : Nat)) = false → (ByteArray.size b < (140737488355328 : Nat) ∧ True) ∧ (okD b = true → (byteAt b (0 : Nat) = byteAt b (0 : Nat) ∧ numB b = numB b ∧ RowEq (rowP b (numB b)) (rowP b (numB b)) (0 : Nat) (numB b) ∧ PickEq false (0 : Nat) #[] (leftB b) ∧ True) ∧ true = true) ∧ (okD b = false → false = true))) ∧ (okD b = false → (ByteArray.size b < (140737488355328 : Nat) ∧ True) ∧ (okD b = true → false = true) ∧ (okD b = false → true = true)))) ∧ ((decide (P < (1 : Int)) == false) = false → (ByteArray.size b < (140737488355328 : Nat) ∧ True) ∧ (okD b = true → (decide (ByteArray.size (leftB b) ≠ (0 : Nat)) = true → (ByteArray.size b < (140737488355328 : Nat) ∧ True) ∧ (okD b = true → (byteAt b (0 : Nat) = byteAt b (0 : Nat) ∧ numB b = numB b ∧ RowEq (rowP b (numB b)) (rowP b (numB b)) (0 : Nat) (numB b) ∧ PickEq true (ByteArray.size (leftB b)) (celA (leftB b)) (leftB b) ∧ True) ∧ true = true) ∧ (okD b = false → false = true)) ∧ (decide (ByteArray.size (leftB b) ≠ (0 : Nat)) = false → (ByteArray.size b < (140737488355328 : Nat) ∧ True) ∧ (okD b = true → (byteAt b (0 : Nat) = byteAt b (0 : Nat) ∧ numB b = numB b ∧ RowEq (rowP b (numB b)) (rowP b (numB b)) (0 : Nat) (numB b) ∧ PickEq false (0 : Nat) #[] (leftB b) ∧ True) ∧ true = true) ∧ (okD b = false → false = true))) ∧ (okD b = false → (ByteArray.size b < (140737488355328 : Nat) ∧ True) ∧ (okD b = true → false = true) ∧ (okD b = false → true = true))))) ∧ ((decide (P < (1 : Int)) == false) = false → ((decide (P < (1 : Int)) == false) = true → ((decide (P > (64 : Int)) == false) = true → (ByteArray.size b < (140737488355328 : Nat) ∧ True) ∧ (okD b = true → (decide (ByteArray.size (leftB b) ≠ (0 : Nat)) = true → (ByteArray.size b < (140737488355328 : Nat) ∧ True) ∧ (okD b = true → (byteAt b (0 : Nat) = byteAt b (0 : Nat) ∧ numB b = numB b ∧ RowEq (rowP b (numB b)) (rowP b (numB b)) (0 : Nat) (numB b) ∧ PickEq true (ByteArray.size (leftB b)) (celA (leftB b)) (leftB b) ∧ True) ∧ true = true) ∧ (okD b = false → false = true)) ∧ (decide (ByteArray.size (leftB b) ≠ (0 : Nat)) = false → (ByteArray.size b < (140737488355328 : Nat) ∧ True) ∧ (okD b = true → (byteAt b (0 : Nat) = byteAt b (0 : Nat) ∧ numB b = numB b ∧ RowEq (rowP b (numB b)) (rowP b (numB b)) (0 : Nat) (numB b) ∧ PickEq false (0 : Nat) #[] (leftB b) ∧ True) ∧ true = true) ∧ (okD b = false → false = true))) ∧ (okD b = false → (ByteArray.size b < (140737488355328 : Nat) ∧ True) ∧ (okD b = true → false = true) ∧ (okD b = false → true = true))) ∧ ((decide (P > (64 : Int)) == false) = false → (ByteArray.size b < (140737488355328 : Nat) ∧ True) ∧ (okD b = true → (decide (ByteArray.size (leftB b) ≠ (0 : Nat)) = true → (ByteArray.size b < (140737488355328 : Nat) ∧ True) ∧ (okD b = true → (byteAt b (0 : Nat) = byteAt b (0 : Nat) ∧ numB b = numB b ∧ RowEq (rowP b (numB b)) (rowP b (numB b)) (0 : Nat) (numB b) ∧ PickEq true (ByteArray.size (leftB b)) (celA (leftB b)) (leftB b) ∧ True) ∧ true = true) ∧ (okD b = false → false = true)) ∧ (decide (ByteArray.size (leftB b) ≠ (0 : Nat)) = false → (ByteArray.size b < (140737488355328 : Nat) ∧ True) ∧ (okD b = true → (byteAt b (0 : Nat) = byteAt b (0 : Nat) ∧ numB b = numB b ∧ RowEq (rowP b (numB b)) (rowP b (numB b)) (0 : Nat) (numB b) ∧ PickEq false (0 : Nat) #[] (leftB b) ∧ True) ∧ true = true) ∧ (okD b = false → false = true))) ∧ (okD b = false → (ByteArray.size b < (140737488355328 : Nat) ∧ True) ∧ (okD b = true → false = true) ∧ (okD b = false → true = true)))) ∧ ((decide (P < (1 : Int)) == false) = false → (ByteArray.size b < (140737488355328 : Nat) ∧ True) ∧ (okD b = true → (decide (ByteArray.size (leftB b) ≠ (0 : Nat)) = true → (ByteArray.size b < (140737488355328 : Nat) ∧ True) ∧ (okD b = true → (byteAt b (0 : Nat) = byteAt b (0 : Nat) ∧ numB b = numB b ∧ RowEq (rowP b (numB b)) (rowP b (numB b)) (0 : Nat) (numB b) ∧ PickEq true (ByteArray.size (leftB b)) (celA (leftB b)) (leftB b) ∧ True) ∧ true = true) ∧ (okD b = false → false = true)) ∧ (decide (ByteArray.size (leftB b) ≠ (0 : Nat)) = false → (ByteArray.size b < (140737488355328 : Nat) ∧ True) ∧ (okD b = true → (byteAt b (0 : Nat) = byteAt b (0 : Nat) ∧ numB b = numB b ∧ RowEq (rowP b (numB b)) (rowP b (numB b)) (0 : Nat) (numB b) ∧ PickEq false (0 : Nat) #[] (leftB b) ∧ True) ∧ true = true) ∧ (okD b = false → false = true))) ∧ (okD b = false → (ByteArray.size b < (140737488355328 : Nat) ∧ True) ∧ (okD b = true → false = true) ∧ (okD b = false → true = true)))))) ∧ ((decide ((6000 : Nat) < ByteArray.size q) == false) = false → true = true)) := by kernel_rfl
end Go.Proofs.Ytgljggoaadgddaa
/- Of script: ScriptBack's runs end with true. No condition. -/
namespace Go.Proofs.Ytgljggoaadgddaa
set_option linter.unusedSectionVars false
set_option maxRecDepth 100000
theorem dec_part (b : ByteArray) (h8 : b.size ≤ 8000) : (ByteArray.size b < (140737488355328 : Nat) ∧ True) ∧ (okD b = true → (decide (ByteArray.size (leftB b) ≠ (0 : Nat)) = true → (StrOk (rowP b (numB b)) (0 : Nat) (numB b) ∧ BytOk (celA (leftB b)) (0 : Nat) (ByteArray.size (leftB b)) ∧ True) ∧ (mayS (byteAt b (0 : Nat)) (0 : Nat) (numB b) (ByteArray.size (leftB b)) (rowP b (numB b)) (celA (leftB b)) = true → (((match mkSB (false && false) (ByteArray.toList (encS (byteAt b (0 : Nat)) (0 : Nat) (numB b) (ByteArray.size (leftB b)) (rowP b (numB b)) (celA (leftB b))) == ByteArray.toList b) with | SB.l b => b | SB.o b => b) == true) = true → true = true) ∧ (((match mkSB (false && false) (ByteArray.toList (encS (byteAt b (0 : Nat)) (0 : Nat) (numB b) (ByteArray.size (leftB b)) (rowP b (numB b)) (celA (leftB b))) == ByteArray.toList b) with | SB.l b => b | SB.o b => b) == true) = false → false = true)) ∧ (mayS (byteAt b (0 : Nat)) (0 : Nat) (numB b) (ByteArray.size (leftB b)) (rowP b (numB b)) (celA (leftB b)) = false → false = true)) ∧ (decide (ByteArray.size (leftB b) ≠ (0 : Nat)) = false → (StrOk (rowP b (numB b)) (0 : Nat) (numB b) ∧ True) ∧ (mayS (byteAt b (0 : Nat)) (0 : Nat) (numB b) (0 : Nat) (rowP b (numB b)) #[] = true → (((match mkSB (false && false) (ByteArray.toList (encS (byteAt b (0 : Nat)) (0 : Nat) (numB b) (0 : Nat) (rowP b (numB b)) #[]) == ByteArray.toList b) with | SB.l b => b | SB.o b => b) == true) = true → true = true) ∧ (((match mkSB (false && false) (ByteArray.toList (encS (byteAt b (0 : Nat)) (0 : Nat) (numB b) (0 : Nat) (rowP b (numB b)) #[]) == ByteArray.toList b) with | SB.l b => b | SB.o b => b) == true) = false → false = true)) ∧ (mayS (byteAt b (0 : Nat)) (0 : Nat) (numB b) (0 : Nat) (rowP b (numB b)) #[] = false → false = true))) ∧ (okD b = false → true = true) := by
  obtain ⟨kS, kB, kM⟩ := b_part b h8
  have hb47 : b.size < 140737488355328 := by omega
  refine ⟨⟨hb47, trivial⟩, fun hd => ?_, fun _ => rfl⟩
  obtain ⟨hm, he, hz⟩ := kM hd
  refine ⟨fun _ => ⟨⟨kS, kB, trivial⟩, fun _ => ?_, fun h => ?_⟩, fun h0 => ?_⟩
  · rw [he]
    exact ⟨fun _ => rfl, fun h => absurd ((same_str b).symm.trans h) (by decide)⟩
  · rw [hm] at h; cases h
  · obtain ⟨hm0, he0⟩ := hz h0
    refine ⟨⟨kS, trivial⟩, fun _ => ?_, fun h => ?_⟩
    · rw [he0]
      exact ⟨fun _ => rfl, fun h => absurd ((same_str b).symm.trans h) (by decide)⟩
    · rw [hm0] at h; cases h
theorem bk_good (P : Int) (o n : Nat) (q b : ByteArray) (cs : Array Value) (ty : TypeId) (hI : StrI cs o n) : Good Try.prog (boolR true) 1 (bkC P (slC 0 o n) q b) (prM true cs ty) := by
  refine run_vc ELw_ok 1000 (bk_row P o n q b cs ty) ?_ (fun _ _ h => h) (fun _ _ h => h.elim)
  rw [show Array.map (fun b => Value.int IntKind.u8 (↑(UInt8.toNat b) : Int)) (ByteArray.data q) = celA q from rfl]
  refine ⟨⟨hI, trivial⟩, fun hg => ⟨fun _ => rfl, fun h8 => ?_⟩, fun _ => rfl⟩
  have hg : greatV n q cs o = false := by simpa using hg
  have h8 : b.size ≤ 8000 := by have := of_decide_eq_false h8; omega
  obtain ⟨hS, hB⟩ := great_facts hI hg
  obtain ⟨kS, kB, kM⟩ := b_part b h8
  have hb47 : b.size < 140737488355328 := by omega
  have DEC := dec_part b h8
  refine ⟨⟨hS, hB, trivial⟩, fun hm => ⟨⟨hS, hB, trivial⟩, fun h => ?_, fun _ => ?_⟩, fun hm => ⟨⟨hS, hB, trivial⟩, fun h => ?_, fun _ => DEC⟩⟩
  · rw [hm] at h
    exact absurd h (by decide)
  · rw [x_ok P o n q cs hm, x_left P o n q cs hm, x_P P o n q cs hm, x_n P o n q cs hm]
    refine ⟨⟨x_small P o n q cs hm, trivial⟩, fun _ => ⟨fun _ => ⟨⟨rfl, rfl, x_row P o n q cs hm hS, pick_eq q, trivial⟩, DEC⟩, fun h0 => ⟨⟨rfl, rfl, x_row P o n q cs hm hS, ?_, trivial⟩, DEC⟩⟩, fun h => by cases h⟩
    have h0 : q.size = 0 := by simpa using h0
    exact h0
  · rw [hm] at h
    exact absurd h (by decide)
theorem bk_good0 (P : Int) (q b : ByteArray) : Good Try.prog (boolR true) 0 (bkC P (.f .e0) q b) M0 := by
  refine run_vc ELw_ok 1000 (bk_e0 P q b) ?_ (fun _ _ h => h) (fun _ _ h => h.elim)
  refine ⟨fun _ => ⟨fun _ => rfl, fun h8 => ?_⟩, fun _ => rfl⟩
  have h8 : b.size ≤ 8000 := by have := of_decide_eq_false h8; omega
  have DEC := dec_part b h8
  exact ⟨fun _ => ⟨fun _ => ⟨fun _ => ⟨fun _ => DEC, fun _ => DEC⟩, fun _ => DEC⟩, fun _ => ⟨fun _ => ⟨fun _ => DEC, fun _ => DEC⟩, fun _ => DEC⟩⟩, fun _ => ⟨fun _ => ⟨fun _ => DEC, fun _ => DEC⟩, fun _ => DEC⟩⟩
end Go.Proofs.Ytgljggoaadgddaa
/- Of script: ScriptTells' contracts hold, and its runs end with true. No condition. -/
namespace Go.Proofs.Ytgljggoaadgddaa
set_option linter.unusedSectionVars false
set_option linter.unusedVariables false
set_option maxRecDepth 100000
/-! Bytes. -/
theorem fnU11 : E0.fn 11 = some Try.f11 := by kernel_rfl
theorem bodyU11 : Try.f11.body = some (Try.f11.body.getD .skip) := by kernel_rfl
theorem strQ_con {e : ByteArray} {s : SV} {m' : SMem} {R R' : Ren} {v : Value} (h : strQ e s m') (hv : s.ok R' v) : (SV.s (.c (.f (.opq (.string e))))).ok R v := by
  unfold strQ at h
  split at h
  · rename_i s'
    have h : s' = e := h
    rw [← h]
    exact hv
  · exact h.elim
theorem b11T_ok {m : SMem} {x : SV} {t : Tree} (h : b11T m x = some t) : Con E0 11 [x] m t := by
  unfold b11T at h
  split at h
  · rename_i P i o n c q
    split at h
    · rename_i cs hr
      cases h
      obtain ⟨ty, wr, hb⟩ := rowV_of hr
      refine Con.ro E0_ok (l' := [refV P (slC 0 o.den n.den) q]) (ms := prM true cs ty) (A := strQ (encS P o.den n.den q.size cs (celA q))) fnU11 bodyU11 rfl (fun _ => i) ?_ ?_ (fun hq => b11_good P o.den n.den q cs ty (hq _ (by simp)) (hq _ (by simp))) (fun _ _ _ _ _ => strQ_con)
      · intro j b hj
        obtain ⟨rfl, rfl⟩ := prM_get hj
        exact ⟨Nat.zero_lt_one, rfl, _, hb, rfl, fun R cs' h => h⟩
      · intro R vs ha
        match vs, ha with
        | [u], ha => exact ⟨agg3 ha.1 (fun _ h => h) (fun _ h => sl_pull h Nat.zero_lt_one rfl rfl) (fun _ h => h), trivial⟩
    · cases h
  · cases h
/-! Decode. -/
theorem fn13 : E0.fn 13 = some Try.f13 := by kernel_rfl
theorem body13 : Try.f13.body = some (Try.f13.body.getD .skip) := by kernel_rfl
theorem fA_yes {P : Int} {n : Nat} {q : ByteArray} {rs : Array Value} {s : SV} {m' : SMem} (h : fA true P n q rs s m') : ∃ π, retOk 0 π (resR P n q) (resM false rs #[]) s m' := by
  unfold fA at h
  split at h
  · split at h
    · exact absurd h.1 (by decide)
    · exact ⟨_, h.2⟩
    · exact h.elim
  · exact h.elim
theorem fA_no {P : Int} {n : Nat} {q : ByteArray} {rs : Array Value} {s : SV} {m' : SMem} {R R' : Ren} {v : Value} (h : fA false P n q rs s m') (hv : s.ok R' v) : resF.ok R v := by
  unfold fA at h
  split at h
  · rename_i p A B y
    split at h
    · obtain ⟨_, h1, h2, h3⟩ := h
      split at h3
      · obtain ⟨vs, rfl, hl⟩ := hv
        match hvs : vs.toList, hl with
        | [a, c], hl =>
          refine ⟨vs, rfl, ?_⟩
          rw [hvs]
          obtain ⟨⟨cs, ea, hc⟩, hd, _⟩ := hl
          have hd : c = .bool y.den := hd
          rw [h2] at hd
          refine ⟨⟨cs, ea, ?_⟩, hd, trivial⟩
          have hc : All2 (SC.ok R') [.f (.int .i64 p), .f (.lit (.slice none 0 0)), .f (.lit (.string ⟨⟨[]⟩⟩))] cs.toList := hc
          show All2 (SC.ok R) [.f (.int .i64 (.l 0)), nilC, .f (.lit (.string ⟨⟨[]⟩⟩))] cs.toList
          match hcs : cs.toList, hc with
          | [x, y', z], hc =>
            have hx : x = .int .i64 p.den := hc.1
            rw [h1] at hx
            exact ⟨hx, hc.2.1, hc.2.2.1, trivial⟩
      · exact h3.elim
    · exact absurd h.1 (by decide)
    · exact h.elim
  · exact h.elim
theorem decT13_ok {m : SMem} {x : SV} {t : Tree} (h : decT13 m x = some t) : Con E0 13 [x] m t := by
  unfold decT13 at h
  split at h
  · rename_i b
    cases h
    refine Con.br (fun hd => ?_) fun hd => ?_
    · refine Con.freshG fn13 body13 (noIds_str b) fun hq => Good.retX ((f_every b (hq _ (by simp))).mono fun s m' h => ?_)
      unfold fAb at h
      rw [hd] at h
      exact fA_yes h
    · refine Con.ro E0_ok (l := [strV' b]) (l' := [strV' b]) (ms := M0) (m := m) (q := _) (A := fAb b) fn13 body13 rfl (fun i => i) (fun i b hb => by
        have hb : (Tr.nil : Tr SBlk).get i = some b := hb
        rw [Tr.get_nil] at hb; cases hb) (fun R vs ha => strV_ok ha) (fun hq => f_every b (hq _ (by simp))) (fun s m' R R' v h hv => ?_)
      unfold fAb at h
      rw [hd] at h
      exact fA_no h hv
  · cases h
/-! Same. -/
theorem same2T_ok {m : SMem} {x y : SV} {t : Tree} (h : same2T m x y = some t) : Con E0 14 [x, y] m t := by
  unfold same2T at h
  split at h
  · rename_i P i n c j k d P' i' o' n' c' q
    split at h
    · rename_i rs bs cs h1 h2 h3
      cases h
      obtain ⟨ty, wr, hb⟩ := rowV_of h1
      obtain ⟨tb, wr', hb'⟩ := rowV_of h2
      obtain ⟨tz, wr2, hb2⟩ := rowV_of h3
      refine Con.ro E0_ok (l' := [.s (.agg (.ls [.f (.int .i64 (.o P)), .f (.slice 0 (.l 0) (.o n.den) .any), smB true k.den])), refV P' (slC 1 o'.den n'.den) q]) (ms := s2M true rs cs bs ty tz tb) (A := boolR true) fn14 body14 rfl (fun x => match x with | 0 => i | 1 => i' | _ => j) ?_ ?_ (fun hq => ?_) (fun _ _ _ _ _ => boolR_lit)
      · intro x b hx
        rcases get3 hx with ⟨rfl, rfl⟩ | ⟨rfl, rfl⟩ | ⟨rfl, rfl⟩
        · exact ⟨l03, rfl, _, hb, rfl, fun R cs' h => h⟩
        · exact ⟨l13, rfl, _, hb2, rfl, fun R cs' h => h⟩
        · exact ⟨l23, rfl, _, hb', rfl, fun R cs' h => h⟩
      · intro R vs ha
        match vs, ha with
        | [u, w], ha => exact ⟨agg3 ha.1 (fun _ h => h) (fun _ h => sl_pull h l03 rfl rfl) (fun _ h => sl_pull h l23 rfl rfl), agg3 ha.2.1 (fun _ h => h) (fun _ h => sl_pull h l13 rfl rfl) (fun _ h => h), trivial⟩
      · have e1 : P = P' := hq _ (by simp)
        have e2 : n.den = n'.den := hq _ (by simp)
        rw [← e1, ← e2]
        exact s2_good_t P n.den k.den o'.den q rs cs bs ty tz tb (hq _ (by simp)) (hq _ (by simp))
    · cases h
  · rename_i P i n c P' i' o' n' c' q
    split at h
    · rename_i rs cs h1 h3
      cases h
      obtain ⟨ty, wr, hb⟩ := rowV_of h1
      obtain ⟨tz, wr2, hb2⟩ := rowV_of h3
      refine Con.ro E0_ok (l' := [.s (.agg (.ls [.f (.int .i64 (.o P)), .f (.slice 0 (.l 0) (.o n.den) .any), smB false 0])), refV P' (slC 1 o'.den n'.den) q]) (ms := s2M false rs cs #[] ty tz 0) (A := boolR true) fn14 body14 rfl (fun x => match x with | 0 => i | _ => i') ?_ ?_ (fun hq => ?_) (fun _ _ _ _ _ => boolR_lit)
      · intro x b hx
        rcases get2 hx with ⟨rfl, rfl⟩ | ⟨rfl, rfl⟩
        · exact ⟨l02, rfl, _, hb, rfl, fun R cs' h => h⟩
        · exact ⟨l12, rfl, _, hb2, rfl, fun R cs' h => h⟩
      · intro R vs ha
        match vs, ha with
        | [u, w], ha => exact ⟨agg3 ha.1 (fun _ h => h) (fun _ h => sl_pull h l02 rfl rfl) (fun _ h => h), agg3 ha.2.1 (fun _ h => h) (fun _ h => sl_pull h l12 rfl rfl) (fun _ h => h), trivial⟩
      · have e1 : P = P' := hq _ (by simp)
        have e2 : n.den = n'.den := hq _ (by simp)
        rw [← e1, ← e2]
        exact s2_good_f P n.den 0 o'.den q rs cs #[] ty tz 0 (hq _ (by simp)) (hq _ (by simp))
    · cases h
  · cases h
theorem conT_ok (g : FuncId) (l : List SV) (m : SMem) (t : Tree) (h : conT g l m = some t) : Con E0 g l m t := by
  unfold conT at h
  split at h
  · exact m9T_ok h
  · exact b11T_ok h
  · exact decT13_ok h
  · exact same2T_ok h
  · exact conL'_ok _ _ _ _ h
theorem ET_ok : EnvOk ET := EnvOk.with E0_ok _ _ conT_ok
theorem row_self (b : ByteArray) (h8 : b.size ≤ 8000) : RowEq (rowP b (numB b)) (rowP b (numB b)) 0 (numB b) :=
  ⟨by have := (numB_le b).1; omega, fun j hj => by
    have h := (rowP_str (b := b) hj).2
    rw [Nat.zero_add]
    exact ⟨h, h, rfl⟩⟩
theorem tells_part (b : ByteArray) (h8 : b.size ≤ 8000) : (ByteArray.size b < (140737488355328 : Nat) ∧ True) ∧ (okD b = true → (decide (ByteArray.size (leftB b) ≠ (0 : Nat)) = true → (ByteArray.size b < (140737488355328 : Nat) ∧ True) ∧ (okD b = true → (byteAt b (0 : Nat) = byteAt b (0 : Nat) ∧ numB b = numB b ∧ RowEq (rowP b (numB b)) (rowP b (numB b)) (0 : Nat) (numB b) ∧ PickEq true (ByteArray.size (leftB b)) (celA (leftB b)) (leftB b) ∧ True) ∧ true = true) ∧ (okD b = false → false = true)) ∧ (decide (ByteArray.size (leftB b) ≠ (0 : Nat)) = false → (ByteArray.size b < (140737488355328 : Nat) ∧ True) ∧ (okD b = true → (byteAt b (0 : Nat) = byteAt b (0 : Nat) ∧ numB b = numB b ∧ RowEq (rowP b (numB b)) (rowP b (numB b)) (0 : Nat) (numB b) ∧ PickEq false (0 : Nat) #[] (leftB b) ∧ True) ∧ true = true) ∧ (okD b = false → false = true))) ∧ (okD b = false → (ByteArray.size b < (140737488355328 : Nat) ∧ True) ∧ (okD b = true → false = true) ∧ (okD b = false → true = true)) := by
  have hb47 : b.size < 140737488355328 := by omega
  have hr := row_self b h8
  refine ⟨⟨hb47, trivial⟩, fun hd => ⟨fun _ => ⟨⟨hb47, trivial⟩, fun _ => ⟨⟨rfl, rfl, hr, pick_eq _, trivial⟩, rfl⟩, fun h => ?_⟩, fun h0 => ⟨⟨hb47, trivial⟩, fun _ => ⟨⟨rfl, rfl, hr, ?_, trivial⟩, rfl⟩, fun h => ?_⟩⟩, fun hd => ⟨⟨hb47, trivial⟩, fun h => ?_, fun _ => rfl⟩⟩
  · rw [hd] at h; cases h
  · have h0 : (leftB b).size = 0 := by simpa using h0
    exact h0
  · rw [hd] at h; cases h
  · rw [hd] at h; cases h
theorem str_self (b : ByteArray) : ((match mkSB (false && false) !ByteArray.toList b == ByteArray.toList b with | SB.l b => b | SB.o b => b) == false) = true := by
  show ((!(b.toList == b.toList)) == false) = true
  simp
theorem strR_of {cs : Array Value} {o n : Nat} {q : ByteArray} (hI : StrI cs o n) (h : greatV n q cs o = false) : StrR cs o n := by
  unfold greatV at h
  rw [Bool.or_eq_false_iff, Bool.or_eq_false_iff, decide_eq_false_iff_not, decide_eq_false_iff_not] at h
  obtain ⟨⟨h1, h2⟩, h3⟩ := h
  exact ⟨by omega, fun j hj => ⟨hI.2 j hj, by have := anyG_at.1 h3 j hj; omega⟩⟩
theorem tl_good (P : Int) (o n : Nat) (q b : ByteArray) (cs : Array Value) (ty : TypeId) (hI : StrI cs o n) : Good Try.prog (boolR true) 1 (tlC P (slC 0 o n) q b) (prM true cs ty) := by
  refine run_vc ET_ok 1000 (tl_row P o n q b cs ty) ?_ (fun _ _ h => h) (fun _ _ h => h.elim)
  rw [show Array.map (fun b => Value.int IntKind.u8 (↑(UInt8.toNat b) : Int)) (ByteArray.data q) = celA q from rfl]
  refine ⟨⟨hI, trivial⟩, fun hg => ⟨fun _ => rfl, fun h8 => ?_⟩, fun _ => rfl⟩
  have hg : greatV n q cs o = false := by simpa using hg
  have h8 : b.size ≤ 8000 := by have := of_decide_eq_false h8; omega
  obtain ⟨hS, hB⟩ := great_facts hI hg
  have hR := strR_of hI hg
  have DEC := tells_part b h8
  have STR := str_self (encS P o n q.size cs (celA q))
  generalize hmm : mayS P o n q.size cs (celA q) = mm
  refine ⟨⟨hS, hB, trivial⟩, fun hm => ⟨⟨hR, trivial⟩, ⟨hS, hB, trivial⟩, fun _ => ⟨fun _ => ⟨⟨hS, hm, trivial⟩, fun _ => ⟨fun h => ?_, fun _ => DEC⟩, fun h => ?_⟩, fun h => ?_⟩, fun h => ?_⟩, fun hm => ⟨⟨hR, trivial⟩, ⟨hS, hB, trivial⟩, fun _ => ⟨fun h => ?_, fun _ => ⟨fun _ => DEC, fun _ => DEC⟩⟩, fun h => ?_⟩⟩
  · rw [hm] at h; exact absurd h (by decide)
  · exact absurd (STR.symm.trans h) (by decide)
  · rw [hm] at h; exact absurd h (by decide)
  · rw [hm] at h; exact absurd h (by decide)
  · rw [hm] at h; exact absurd h (by decide)
  · rw [hm] at h; exact absurd h (by decide)
theorem tl_good0 (P : Int) (q b : ByteArray) : Good Try.prog (boolR true) 0 (tlC P (.f .e0) q b) M0 := by
  refine run_vc ET_ok 1000 (tl_e0 P q b) ?_ (fun _ _ h => h) (fun _ _ h => h.elim)
  refine ⟨fun _ => ⟨fun _ => rfl, fun h8 => ?_⟩, fun _ => rfl⟩
  have h8 : b.size ≤ 8000 := by have := of_decide_eq_false h8; omega
  have DEC := tells_part b h8
  repeat' first | exact DEC | apply And.intro | intro _
end Go.Proofs.Ytgljggoaadgddaa
/- How a call of data enters the symbolic machine, and how what it leaves is told; without package-level variables. No condition. -/
namespace Go.Proofs.Ytgljggoaadgddaa
noncomputable section
open Go.ChangeShapes Go.WideShapes Go.ChangeAt Go.RowKit Go.Deep

theorem own : ownKnob Try.prog.godebug = none := by kernel_rfl
theorem laidOut : laidOutB Try.prog = true := by kernel_rfl
theorem sub_get {l : List Value} {a b o : Nat} {v : Value} (h : ((l.drop a).take b)[o]? = some v) : l[a + o]? = some v := by
  rw [List.getElem?_take] at h
  split at h
  · rw [List.getElem?_drop] at h; exact h
  · cases h
theorem sub_one {l : List Value} {a b : Nat} {v : Value} (h : (l.drop a).take b = [v]) : l[a]? = some v := by
  have : ((l.drop a).take b)[0]? = some v := by rw [h]; rfl
  exact sub_get this
section
variable {H : Type} {enc : TypeId × Value → H} {P : Program} {w : World} {base : Nat} {spare : Nat → Bool} {held : Bool}
theorem field_of {t : TypeId} {fs : Array Field} {fuel : Nat} {cs : List Value} {x : DataW H × List MemPlace} (ht : P.underlying t = some (.struct fs)) (h : DataW.trod enc P w base spare held fuel t cs = some x)
    (i : Nat) {f : Field} (hf : fs[i]? = some f) : ∃ n y, DataW.trod enc P w base spare held n f.type ((cs.drop f.offset).take (P.cellsOf f.type)) = some y := by
  obtain ⟨ys, n, _, _, _, hyl, hg⟩ := DataW.trod_struct ht h
  have hlt : i < fs.size := (Array.getElem?_eq_some_iff.1 hf).1
  have hys : ys[i]? = some (ys[i]'(by omega)) := List.getElem?_eq_getElem (by omega)
  exact ⟨n, _, (hg i f hf).trans hys⟩
theorem add_none (b off n : Nat) : (⟨b, off, none⟩ : Addr).add n = ⟨b, off + n, none⟩ := by
  unfold Addr.add
  split
  · rename_i e; subst e; rfl
  · rfl
/-- A slice that came in: where it lies, and each element as it reads. -/
theorem slice_cells {t e : TypeId} {base' C : Nat} {fuel : Nat} {A : Option Addr} {len cap : Nat} {x : DataW H × List MemPlace} (ht : P.underlying t = some (.slice e)) (hC : P.cellsOf e = C)
    (hok : Value.okWide P w .any base t (.slice A len cap)) (h : DataW.trod enc P w base' (fun _ => true) held fuel t [.slice A len cap] = some x) :
    (A = none ∧ len = 0 ∧ cap = 0) ∨ ∃ b off cs ty fz, A = some ⟨b, off, none⟩ ∧ len ≤ cap ∧ cap ≤ maxLen ∧ w.heap[b]? = some (.cells cs ty fz) ∧
      ∀ j, j < len → ∃ n y, DataW.trod enc P w base' (fun _ => true) held n e ((cs.toList.drop (off + j * C)).take C) = some y := by
  rcases open_slice ht h with ⟨hcs, hx⟩ | ⟨a, len', cap', m, n, D, Pl, hcs, _, hl, hmx, hm, hx, hi⟩
  · simp at hcs
    exact .inl hcs
  · simp at hcs
    obtain ⟨rfl, rfl, rfl⟩ := hcs
    simp at hm
    subst hm
    obtain ⟨b, off, spot⟩ := a
    simp only [Value.okWide, ht, Cell.okWide, Cell.ok] at hok
    obtain ⟨_, _, _, hs, _, _, hsh, _⟩ := hok
    have hs : spot = none := hs
    subst hs
    cases ho : w.heap[b]? with
    | none => simp [World.shape?, ho] at hsh
    | some o =>
      have hcells : ∃ cs ty fz, o = .cells cs ty fz := by
        cases o <;> first | exact ⟨_, _, _, rfl⟩ | simp [World.shape?, ho] at hsh
      obtain ⟨cs, ty, fz, rfl⟩ := hcells
      refine .inr ⟨b, off, cs, ty, fz, rfl, hl, hmx, ho, fun j hj => ?_⟩
      obtain ⟨cs', hc, ht'⟩ := hi j (by omega)
      rw [hC] at hc
      obtain ⟨_, hcl, hat⟩ := World.cells?_some hc
      refine ⟨n, (D j, Pl j), ?_⟩
      rw [← ht']
      congr 1
      apply List.ext_getElem?
      intro i
      rw [List.getElem?_take]
      by_cases hi' : i < C
      · rw [if_pos hi', ← hat i hi', add_none, add_none]
        simp [World.cell?, ho, Nat.add_assoc]
      · rw [if_neg hi', List.getElem?_eq_none (by omega)]
theorem post_of_below {f : Func} {s : ChangeSpec} {apart fresh handsOn again : Bool} {W W' : World} {args : Array Value} {v : Value} {ds gs : List (DataW H)} {before pa pv : List MemPlace}
    (hW : DataW.Whole enc P f.params.toList s.vars apart W args.toList ds gs before)
    (hres : ∀ (b : Nat) (sp : Nat → Bool) (hd : Bool), DataW.TrodAll enc P W' b sp hd f.resultTypes.toList (v.resultList f.resultTypes.size) (s.fn H (ds ++ gs)).results [])
    (hargs : ∀ sp : Nat → Bool, (∀ p ∈ before, sp p.block = true) → DataW.TrodAll enc P W' 0 sp true f.params.toList args.toList (s.fn H (ds ++ gs)).args pa)
    (hvars : ∀ sp : Nat → Bool, (∀ p ∈ before, sp p.block = true) → DataW.TrodVars enc P W' sp s.vars (s.fn H (ds ++ gs)).vars pv)
    (hps : before = pa ++ pv) (hb : Below W.heap.size W W')
    (hok : ∀ (j : Nat) (t : TypeId) (r : Value), f.resultTypes[j]? = some t → (v.resultList f.resultTypes.size)[j]? = some r → Value.okWide P W' .any 0 t r) :
    s.post enc P f apart fresh handsOn again W args v W' := by
  have hlt : ∀ p ∈ before, p.block < W.heap.size := fun p hp => hW.lt p hp
  have hold : ∀ p ∈ before, (fun b => decide (b < W.heap.size)) p.block = true := fun p hp => by simpa using hlt p hp
  refine ⟨ds, gs, before, [], pa, pv, hW, hres _ _ _, hargs _ hold, hvars _ hold, World.keptBut_mono (fun p hp => ⟨hp, ?_⟩) (hb.frame (· ∈ before)), fun _ => ?_⟩
  · rw [hps, List.mem_append] at hp
    exact Or.inr hp
  · obtain ⟨_, _, _, _, _, hz, hn⟩ := hW
    refine ⟨hok, _, _, ([] ++ pa) ++ pv, ⟨[] ++ pa, pv, trodAll_append (hargs _ (fun _ _ => rfl)) (hres _ _ _), hvars _ (fun _ _ => rfl), rfl, ?_, ?_⟩, ?_⟩
    · intro b off hp
      have hin : MemPlace.cell b off ∈ before := by rw [hps]; simpa using hp
      rw [hb.frozen (hlt _ hin)]
      exact hz b off hin
    · intro ha
      have := hn ha
      rw [hps] at this
      simpa using this
    · intro p hp _
      rw [hps]
      simpa using hp
end
theorem below_of {n0 : Nat} {w0 w : World} (h : BelowF n0 (fun _ => False) w0 w) : Below n0 w0 w := ⟨h.os, h.tape, h.output, h.size, fun k hk => h.block k hk fun x => x⟩
theorem rel_empty (hg : glTab = []) (W : World) (n : Nat) : Rel W.heap.size (fun _ => False) W (fun _ => none) ⟨n, .nil, []⟩ W :=
  ⟨fun _ _ _ _ _ _ h => by (cases h), fun _ _ h => by (cases h), fun _ _ h => by (cases h), fun i b h => by (have h : (Tr.nil : Tr SBlk).get i = some b := h; rw [Tr.get_nil] at h; cases h), Nat.le_refl _, BelowF.refl _ _ _,
    fun _ _ h => by (cases h), fun _ _ _ _ _ _ h => by (cases h), fun g cs h => by rw [hg] at h; cases h⟩
/-- One block came in, at which nothing is written. -/
def oneD (ds : Array Value) (ty : TypeId) : SMem := ⟨1, Tr.node .nil (some ⟨.raw ds, ty, false⟩) .nil, []⟩
theorem one_get {ds : Array Value} {ty : TypeId} {i : Nat} {b : SBlk} (h : getB (oneD ds ty).bl i = some b) : i = 0 ∧ b = ⟨.raw ds, ty, false⟩ := by
  unfold getB oneD at h
  cases i with
  | zero => cases h; exact ⟨rfl, rfl⟩
  | succ i =>
    rw [Tr.get_succ, Tr.get_nil, ite_self] at h
    cases h
theorem rel_one (hg : glTab = []) {W : World} {b : Nat} {cs : Array Value} {ty : TypeId} {fz : Nat × Nat} (hb : W.heap[b]? = some (.cells cs ty fz)) :
    Rel W.heap.size (fun _ => False) W (fun i => if i = 0 then some ⟨b, cs.size⟩ else none) (oneD cs ty) W := by
  have key : ∀ {i : Nat} {g : Loc}, (if i = 0 then some (⟨b, cs.size⟩ : Loc) else none) = some g → i = 0 ∧ g = ⟨b, cs.size⟩ := by
    intro i g h
    split at h
    · rename_i e; cases h; exact ⟨e, rfl⟩
    · cases h
  have hlt : b < W.heap.size := (Array.getElem?_eq_some_iff.1 hb).1
  refine ⟨fun i j g h b c h1 h2 _ _ _ _ => by rw [(key h1).1, (key h2).1], fun i g h => by rw [(key h).2]; exact hlt, fun i g h => by rw [(key h).1]; exact Nat.zero_lt_one, fun i c hc => ?_, Nat.le_refl _, BelowF.refl _ _ _,
    fun _ _ h => by (cases h), fun _ _ _ _ _ _ _ _ _ h => by (cases h), fun g cs h => by rw [hg] at h; cases h⟩
  obtain ⟨rfl, rfl⟩ := one_get hc
  exact ⟨⟨b, cs.size⟩, cs, fz, rfl, hb, rfl, rfl, fun h => by cases h⟩
end
end Go.Proofs.Ytgljggoaadgddaa
/- For every script and every string, bailiwicklaw18.ScriptBack returns true, and each argument reads behind the call as it did before. No condition. -/
namespace Go.Proofs.Ytgljggoaadgddaa
set_option maxRecDepth 100000
open Go.ChangeShapes Go.WideShapes Go.ChangeAt Go.RowKit Go.Deep
theorem cells9 : Try.prog.cellsOf 9 = 1 := by kernel_rfl
theorem gl_nil : glTab = [] := rfl
/-- A row of strings that came in: empty, or so many cells of a block. -/
def StrIn (W : World) (v : Value) : Prop :=
  (∃ a c, v = .slice a 0 c) ∨ ∃ b off n cap cs ty fz, v = .slice (some ⟨b, off, none⟩) n cap ∧ n ≠ 0 ∧ n ≤ cap ∧ W.heap[b]? = some (.cells cs ty fz) ∧ StrI cs off n
theorem str_in {H : Type} {enc : TypeId × Value → H} {W : World} {base base' : Nat} {fuel : Nat} {v : Value} {held : Bool} {x : DataW H × List MemPlace}
    (hok : Value.okWide Try.prog W .any base 22 v) (h : DataW.trod enc Try.prog W base' (fun _ => true) held fuel 22 [v] = some x) : StrIn W v := by
  obtain ⟨A, len, cap, rfl⟩ := okWide_slice Try.underlying22 hok
  rcases slice_cells Try.underlying22 cells9 hok h with ⟨rfl, rfl, rfl⟩ | ⟨b, off, cs, ty, fz, rfl, hl, hm, ho, hj⟩
  · exact .inl ⟨_, _, rfl⟩
  · by_cases h0 : len = 0
    · subst h0; exact .inl ⟨_, _, rfl⟩
    · refine .inr ⟨b, off, len, cap, cs, ty, fz, rfl, h0, hl, ho, by unfold maxLen at hm; omega, fun i hi => ?_⟩
      obtain ⟨n, y, hy⟩ := hj i hi
      rw [Nat.mul_one] at hy
      obtain ⟨s, e, _, _⟩ := DataW.trod_string Try.underlying9 hy
      have e := sub_one e
      rw [Array.getElem?_toList] at e
      have es : strAt cs (off + i) = s := by unfold strAt; rw [e]
      unfold IsStr
      rw [es]
      exact e
/-- A script that came in. -/
theorem sc_in {H : Type} {enc : TypeId × Value → H} {W : World} {base base' : Nat} {fuel : Nat} {v : Value} {held : Bool} {x : DataW H × List MemPlace}
    (hok : Value.okWide Try.prog W .any base 24 v) (h : DataW.trod enc Try.prog W base' (fun _ => true) held fuel 24 v.cells.toList = some x) :
    ∃ P o q, v = .agg #[.int .i64 P, o, .string q] ∧ StrIn W o := by
  have hok' := hok
  simp only [Value.okWide, Try.underlying24] at hok'
  obtain ⟨cs, rfl, hsz, ts, hts, _, hcells⟩ := hok'
  have e3 : Try.prog.cellsOf 24 = 3 := by kernel_rfl
  rw [e3] at hsz
  have et : Try.prog.cellTypes Try.prog.depth 24 = some [3, 22, 9] := by kernel_rfl
  rw [et] at hts
  cases hts
  have h : DataW.trod enc Try.prog W base' (fun _ => true) held fuel 24 cs.toList = some x := h
  obtain ⟨l, rfl⟩ : ∃ l : List Value, cs = l.toArray := ⟨cs.toList, by simp⟩
  match l, hsz with
  | [c0, c1, c2], _ =>
    obtain ⟨_, k0, q0⟩ := hcells 0 c0 rfl
    obtain ⟨_, k1, q1⟩ := hcells 1 c1 rfl
    obtain ⟨_, k2, q2⟩ := hcells 2 c2 rfl
    cases k0; cases k1; cases k2
    have toV : ∀ {t : TypeId} {c : Value} {d : TypeDesc}, Try.prog.underlying t = some d → isA d = false → Cell.okWide Try.prog W .any base t c → Value.okWide Try.prog W .any base t c := by
      intro t c d hu hd hc
      unfold Value.okWide
      rw [hu]
      cases d <;> first | exact hc | cases hd
    obtain ⟨n0, rfl⟩ := okWide_int Try.underlying3 (toV Try.underlying3 rfl q0)
    obtain ⟨s2, rfl⟩ := okWide_string Try.underlying9 (toV Try.underlying9 rfl q2)
    refine ⟨n0, c1, s2, rfl, ?_⟩
    obtain ⟨ys, n, _, hx, _, hyl, hg⟩ := DataW.trod_struct Try.underlying24 h
    have hyl : ys.length = 3 := hyl
    have hy : ys[1]? = some (ys[1]'(by omega)) := List.getElem?_eq_getElem (by omega)
    have h1 := (hg 1 _ rfl).trans hy
    have e1 : Try.prog.cellsOf 22 = 1 := by kernel_rfl
    refine str_in (base' := base') (held := held) (enc := enc) (toV Try.underlying22 rfl q1) (x := ys[1]'(by omega)) (fuel := n) ?_
    rw [← h1]
    show _ = DataW.trod enc Try.prog W base' (fun _ => true) held n 22 ((List.drop 1 _).take (Try.prog.cellsOf 22))
    rw [e1]
    rfl
theorem body4 : Try.f4.body = some (Try.f4.body.getD .skip) := rfl
theorem boolR_true {R : Ren} {s : SV} {m : SMem} {v : Value} (h : boolR true s m) (hv : s.ok R v) : v = .bool true := by
  unfold boolR at h
  split at h
  · have hv : v = .bool _ := hv
    rw [hv, h]
  · exact h.elim
theorem ref_ok {R : Ren} {P : Int} {A : SF} {q : ByteArray} {u : Value} (h : A.ok R u) : (refV P (.f A) q).ok R (.agg #[.int .i64 P, u, .string q]) := ⟨_, rfl, rfl, h, ⟨rfl, rfl⟩, trivial⟩
theorem calls_of {W : World} {x y : SV} {m : SMem} {R : Ren} {v u : Value} (hg : Good Try.prog (boolR true) m.next [callFr 4 Try.f4.ntmps [x, y] (Try.f4.body.getD .skip)] m) (hx : x.ok R v) (hy : y.ok R u) (hR : Rel W.heap.size (fun _ => False) W R m W) :
    Calls Try.prog 4 #[v, u] W fun e w' => e = .returned (.bool true) ∧ Below W.heap.size W w' := by
  have hl : All2 (SV.ok R) [x, y] (#[v, u] : Array Value).toList := ⟨hx, hy, trivial⟩
  have h := answers_of_good Try.func4 body4 hg hl hR
  unfold Answers at h
  refine h.mono ?_
  rintro e w' ⟨v, rfl, s', m', R', hr, _, hR', hv⟩
  exact ⟨by rw [boolR_true hr hv], below_of hR'.fr⟩
theorem back_call {W : World} {P : Int} {o : Value} {q b : ByteArray} (hv : StrIn W o) :
    Calls Try.prog 4 #[.agg #[.int .i64 P, o, .string q], .string b] W fun e w' => e = .returned (.bool true) ∧ Below W.heap.size W w' := by
  rcases hv with ⟨a, c, rfl⟩ | ⟨b', off, n, cap, cs, ty, fz, rfl, hn, hl, hb, hI⟩
  · exact calls_of (m := M0) (bk_good0 P q b) (ref_ok ⟨a, c, rfl⟩) ⟨rfl, rfl⟩ (rel_empty gl_nil W 0)
  · exact calls_of (m := prM true cs ty) (bk_good P off n q b cs ty hI) (ref_ok ⟨⟨b', cs.size⟩, cap, rfl, rfl, trivial, hl⟩) ⟨rfl, rfl⟩ (rel_one gl_nil hb)
theorem back_lifted (os : Os) (started : os.Started) (H : Type) (enc : TypeId × Value → H) :
    ReturnsInHanded {} Try.checked os 4 .any (Rows.scriptBackSpec.pre6 enc Try.prog Try.f4 Rows.scriptBackRow.domain false) (Rows.scriptBackSpec.post enc Try.prog Try.f4 false true false false) := by
  refine returnsInHanded_of_change (C := Try.checked) own started (by kernel_rfl) Try.func4
    (ChangeSpec.witness6 (enc := enc) (C := Try.checked) false ⟨#[], #[.agg #[.int .i64 0, .slice none 0 0, .string .empty], .string .empty], []⟩ 8 (by kernel_rfl) (by kernel_rfl) (by kernel_rfl) (by kernel_rfl)) ?_
  intro W base args ds gs before hval0 hW hcnd _
  have hval : ∀ (j : Nat) t v, Try.f4.params[j]? = some t → args[j]? = some v → Value.okWide Try.prog W .any base t v := hval0
  have hW' := hW
  obtain ⟨p, q, hA0, hV, rfl, hfz, hnd⟩ := hW
  have hA : DataW.TrodAll enc Try.prog W 0 (fun _ => true) true Try.f4.params.toList args.toList ds p := hA0
  rw [Try.params4] at hA hval
  obtain ⟨v0, v1, d0, d1, p0, p1, rfl, rfl, rfl, h0, h1⟩ := trodAll_two hA
  obtain ⟨rfl, rfl⟩ := trodVars_none hV
  have h0k := h0
  obtain ⟨s, rfl, rfl, rfl, hs⟩ := Go.ChangeMaps.open_string Try.underlying9 (hval 1 9 v1 rfl rfl) h1
  obtain ⟨fu0, hf0⟩ := h0
  obtain ⟨P, o, q, rfl, ho⟩ := sc_in (hval 0 24 v0 rfl rfl) hf0
  clear hA0 hval0
  simp only [List.append_nil] at hW'
  refine (back_call ho).mono fun e' W' ⟨he, hb⟩ => ?_
  subst he
  have hlt : ∀ y ∈ p0, y.block < W.heap.size := fun y hy => by simpa using hW'.lt y (by simpa using hy)
  refine ⟨_, rfl, post_of_below (pa := p0) (pv := []) hW' (fun _ _ _ => trodAll_mk1 (shut_bool Try.underlying4 _)) (fun sp hsp => ?_) (fun _ _ => rfl) (by simp) hb (ok_one (by kernel_rfl) rfl (okWide_bool_mk Try.underlying4 _))⟩
  rw [show p0 = p0 ++ [] from (List.append_nil p0).symm]
  refine trodAll_mk2 ?_ (Go.ChangeMaps.shut_string Try.underlying9 hs)
  exact Go.WideElems.Trod_stays laidOut (by kernel_rfl) (of_decide_eq_true (by kernel_rfl)) h0k (fun y hy => hb.same (hlt y hy)) (fun y hy => hsp y (by simpa using hy))
theorem scriptBack_holds : Rows.ScriptBackSaid :=
  OpenClaim.holds_of_wide 4 Try.f4 rfl rfl rfl rfl rfl rfl rfl ⟨rfl, rfl, rfl, rfl, rfl⟩ rfl rfl rfl rfl rfl (by kernel_rfl) Try.func4 (by kernel_rfl)
    (of_decide_eq_true (by kernel_rfl)) (by unfold Func.isWrapper; first | (rw [if_pos (by decide +kernel)]; kernel_rfl) | (rw [if_neg (by decide +kernel)]; exact ⟨rfl, rfl⟩))
    (fun os started H enc _ => back_lifted os started H enc)
end Go.Proofs.Ytgljggoaadgddaa
