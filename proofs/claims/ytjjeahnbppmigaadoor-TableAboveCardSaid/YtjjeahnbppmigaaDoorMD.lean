/- Of TableAbove: the rounds over acts; what is learned behind each. No condition. -/
import Derived.Test.YtjjeahnbppmigaaDoorMC
import Derived.Test.YtjjeahnbppmigaaDoorMB
set_option linter.unusedVariables false
set_option linter.unusedSimpArgs false
namespace Go.Proofs.YtjjeahnbppmigaaDoor
set_option maxRecDepth 100000
set_option linter.unusedSimpArgs false
set_option linter.unusedVariables false
/-- More is known. -/
def More (Γ Γ' : Gh) : Prop := ∀ g cs, @GlP Γ g cs → @GlP Γ' g cs
section
variable {Γ Γ' : Gh} (hm : More Γ Γ')
include hm
theorem SlV.more {v : Value} (h : @SlV Γ v) : @SlV Γ' v := by
  obtain ⟨r, h | ⟨b, o, n, c, cs, e, h1, h2⟩⟩ := h
  · exact ⟨r, .inl h⟩
  · exact ⟨r, .inr ⟨b, o, n, c, cs, e, hm _ _ h1, h2⟩⟩
theorem SlX.more {v : Value} (h : @SlX Γ v) : @SlX Γ' v := by
  rcases h with h | h
  · exact .inl h
  · exact .inr (SlV.more hm h)
theorem RgOk.more {ts : Array Value} {p : Nat} (h : @RgOk Γ ts p) : @RgOk Γ' ts p := by
  cases h with
  | mk u q r ro l c hu hq hc => exact @RgOk.mk Γ' ts p u q (SlV.more hm r) ro l c hu hq hc
theorem TbOk.more {ts : Array Value} (h : @TbOk Γ ts) : @TbOk Γ' ts := by
  cases h with
  | mk sz bk rg => exact @TbOk.mk Γ' ts sz bk fun i hi => RgOk.more hm (rg i hi)
theorem TI.more {ts : Array Value} (h : @TI Γ ts) : @TI Γ' ts := by
  cases h with
  | mk ok fo us => exact @TI.mk Γ' ts (TbOk.more hm ok) fo us
theorem AcAt.more {ds : Array Value} {p : Nat} (h : @AcAt Γ ds p) : @AcAt Γ' ds p := by
  cases h with
  | mk d a b u q ro rs r l c ha hb => exact @AcAt.mk Γ' ds p d a b u q ro rs (fun k => SlX.more hm (r k)) l c ha hb
theorem AcOk.more {ds : Array Value} {off n : Nat} (h : @AcOk Γ ds off n) : @AcOk Γ' ds off n := by
  cases h with
  | mk sz at' => exact @AcOk.mk Γ' ds off n sz fun i hi => AcAt.more hm (at' i hi)
end
theorem wu_in (x : Int) : inH (wu x) := by
  unfold wu inH IntKind.wrap
  simp [IntKind.bits, IntKind.signed]
  omega
theorem sAx_good [Gh] {off num : Nat} {ds : Array Value} {ty : TypeId} {A : SV → SMem → Prop} {QB : Int → Int → Int → Array Value → Array Value → Prop} {QP : Int → Int → Int → Array Value → Array Value → Nat → Nat → Array Value → Prop} {fs : List SFr} {m : SMem}
    (hB : ∀ i h e ts ks, QB i h e ts ks → Good Tryd.prog A 1 (sB_F off num ds ty i h e ts ks) (sB_M off num ds ty i h e ts ks)) (hP : ∀ i h e ts us o n cs, QP i h e ts us o n cs → Good Tryd.prog A 1 (sP_F off num ds ty i h e ts us o n cs) (sP_M off num ds ty i h e ts us o n cs))
    (hb : sAx off num ds ty QB QP fs m) : Good Tryd.prog A 1 fs m := by
  unfold sAx at hb
  split at hb
  · split at hb
    · split at hb
      · exact sP_good hP hb
      · exact sB_good hB hb
    · exact hb.elim
  · exact hb.elim
theorem ti_dropT [Gh] {ts : Array Value} (hi : TI ts) (h : Int) : TI (dropT ts h) ∧ Acts ts (dropT ts h) h (getX5 ts h) 0 := by
  cases hg : gdF ts h with
  | true =>
    have e1 : dropT ts h = drT ts h := by unfold dropT; rw [hg]; rfl
    have e2 : getX5 ts h = 0 := by unfold getX5; rw [hg]; rfl
    rw [e1, e2]
    exact ti_drop hi hg
  | false =>
    have e1 : dropT ts h = ts := by unfold dropT; rw [hg]; rfl
    rw [e1]
    exact ⟨hi, acts_no hi.ok _ _ _⟩
theorem ti_setNl [Gh] {ts : Array Value} (hi : TI ts) {h q l c0 c1 c2 c3 c4 c5 c6 c7 : Int} (hcc : inH c0 ∧ inH c1 ∧ inH c2 ∧ inH c3 ∧ inH c4 ∧ inH c5 ∧ inH c6 ∧ inH c7) (d : Int) : TI (setNl ts h q l c0 c1 c2 c3 c4 c5 c6 c7) ∧ Acts ts (setNl ts h q l c0 c1 c2 c3 c4 c5 c6 c7) h (setE ts h q (decide (l = 0))) d := by
  by_cases e : setE ts h q (decide (l = 0)) = 0
  · have hg : gdF ts h = true := by
      cases hg : gdF ts h with
      | true => rfl
      | false => unfold setE at e; rw [hg] at e; cases e
    have hq : 0 ≤ q ∧ q ≤ 64 := by
      unfold setE at e
      rw [if_pos hg] at e
      split at e
      · rename_i k; exact ⟨k.1, k.2.1⟩
      · cases e
    have e1 : setNl ts h q l c0 c1 c2 c3 c4 c5 c6 c7 = setP ts h q (.slice none 0 0) l c0 c1 c2 c3 c4 c5 c6 c7 := by unfold setNl; rw [if_pos e]
    rw [e1, e]
    exact ti_set hi hg hq slv_nil hcc d
  · have e1 : setNl ts h q l c0 c1 c2 c3 c4 c5 c6 c7 = ts := by unfold setNl; rw [if_neg e]
    rw [e1]
    exact ⟨hi, acts_no hi.ok _ _ _⟩
theorem ti_raT [Gh] {ts : Array Value} (hi : TI ts) {h u : Int} (hu : inH u) (d : Int) : TI (raT ts h u) ∧ Acts ts (raT ts h u) h (raE ts h u) d := by
  by_cases e : raE ts h u = 0
  · have e1 : raT ts h u = raS ts h u := by unfold raT; rw [if_pos e]
    rw [e1, e]
    exact ti_raise hi e hu d
  · have e1 : raT ts h u = ts := by unfold raT; rw [if_neg e]
    rw [e1]
    exact ⟨hi, acts_no hi.ok _ _ _⟩
theorem ti_newT [Gh] {ts : Array Value} (hi : TI ts) {u q : Int} (hu : inH u) (h d : Int) : TI (newT ts u q) ∧ Acts ts (newT ts u q) h (newE ts u q) d := by
  by_cases e : newE ts u q = 0
  · have e1 : newT ts u q = nwT ts u q := by unfold newT; rw [if_pos e]
    rw [e1, e]
    exact ti_new hi e hu h d
  · have e1 : newT ts u q = ts := by unfold newT; rw [if_neg e]
    rw [e1]
    exact ⟨hi, acts_no hi.ok _ _ _⟩
/-- A row of pairs of one's own, from here on known. -/
theorem learn_sl [Gh] {k n c : Nat} {cs cells : Array Value} {R : Ren} (hg : GlP k cells.toList) (ho : (SA.pop cs).okM R cells) (hs : cs.size = n * 2) (hp : PrOk cs 0 n) (h1 : 1 ≤ n) (hc : n ≤ c) : SlV (.slice (some ⟨k, 0, none⟩) n c) := by
  obtain ⟨o1, o2⟩ : cells.toList.take cs.size = cs.toList ∧ ∀ v ∈ cells.toList, v.oneCell' = true := ho
  have hlen : cs.size ≤ cells.size := by
    have := congrArg List.length o1
    simp only [List.length_take, Array.length_toList] at this
    omega
  have eq : ∀ j, j < n * 2 → cells.toList.toArray[0 + j]? = cs[0 + j]? := fun j hj => by
    rw [Nat.zero_add, List.getElem?_toArray, ← Array.getElem?_toList (xs := cs), ← o1, List.getElem?_take_of_lt (by omega)]
  have ii : ∀ j, j < n * 2 → IsInt .i64 cs (0 + j) → IsInt .i64 cells.toList.toArray (0 + j) := fun j hj h => by
    unfold IsInt intAt at *
    rw [eq j hj]; exact h
  exact ⟨_, .inr ⟨k, 0, n, c, cells.toList, rfl, hg, ⟨by simp only [List.size_toArray, Array.length_toList]; omega, hp.le, fun i hi => ii (i * 2) (by omega) (hp.a i hi), fun i hi => ii (i * 2 + 1) (by omega) (hp.b i hi)⟩, h1, hc, rfl⟩⟩
section
variable {off num : Nat} {ds : Array Value} {ty : TypeId}
theorem sA_one (Γ : Gh) (ts : Array Value) (i : Nat) (hn : num ≤ 150) (hin : i < num) (hac : @AcOk Γ ds off num) (h80 : nV (valAt ds (off + i * 15 + 5)) ≤ 80) (hi : @TI Γ ts)
    (next : i + 1 < num → ∀ (Γ' : Gh) (ks : Array Value), @AcOk Γ' ds off num → @TI Γ' ks → @GA Γ' off num ds ty (i + 1) ks) : @GA Γ off num ds ty i ts := by
  have a := hac.at' i hin
  have hx := a.r h80
  have hb := hi.ok
  have hs := hb.sz
  have inA := a.ha
  have hB : ∀ (h e : Int) (ks : Array Value), TI ks → Acts ts ks h e (intAt ds (off + i * 15)) → GB off num ds ty i h e ts ks := fun h e ks hk ha => sB_ok hi hk ha hn hin fun hlt => next hlt Γ ks hac hk
  refine past_vc EL_ok 1000 (taF off num ds ty i ts (fun i' h e ts' ks => i' = (i : Int) ∧ ts' = ts ∧ TI ks ∧ Acts ts ks h e (intAt ds (off + i * 15)))
    (fun i' h e ts' us o n cs => i' = (i : Int) ∧ h = intAt ds (off + i * 15 + 1) ∧ e = 0 ∧ ts' = ts ∧ us = setP ts (intAt ds (off + i * 15 + 1)) (intAt ds (off + i * 15 + 4)) (.slice none 0 0) (intAt ds (off + i * 15 + 6)) (wu (intAt ds (off + i * 15 + 7))) (wu (intAt ds (off + i * 15 + 8))) (wu (intAt ds (off + i * 15 + 9))) (wu (intAt ds (off + i * 15 + 10))) (wu (intAt ds (off + i * 15 + 11))) (wu (intAt ds (off + i * 15 + 12))) (wu (intAt ds (off + i * 15 + 13))) (wu (intAt ds (off + i * 15 + 14)))
      ∧ o = pl (intAt ds (off + i * 15 + 1)) + 2 ∧ n = nV (valAt ds (off + i * 15 + 5)) ∧ cs = (rowK (valAt ds (off + i * 15 + 5))).extract 0 (0 + nV (valAt ds (off + i * 15 + 5)) * 2) ∧ nV (valAt ds (off + i * 15 + 5)) ≠ 0 ∧ setE ts (intAt ds (off + i * 15 + 1)) (intAt ds (off + i * 15 + 4)) (mayE (rowK (valAt ds (off + i * 15 + 5))) 0 (nV (valAt ds (off + i * 15 + 5))) (intAt ds (off + i * 15 + 6))) = 0)) ?_ (fun _ _ h => h)
    (fun fs m hb => sAx_good (fun i' h e ts' ks ⟨e1, e2, e3, e4⟩ => by rw [e1, e2]; exact hB h e ks e3 e4) (fun i' h e ts' us o n cs ⟨e1, e2, e3, e4, e5, e6, e7, e8, e9, e10⟩ => ?_) hb)
  · have h1 : (0 : Int) ≤ (i : Int) ∧ (i : Int) < (num : Int) := by omega
    have t0 := a.d; have t1 := a.a; have t2 := a.b; have t3 := a.u; have t4 := a.q; have t5 := a.ro; have t6 := a.l
    have t7 : IsInt .i64 ds (off + i * 15 + 7) := a.c 0 (by decide)
    have t8 : IsInt .i64 ds (off + i * 15 + 8) := a.c 1 (by decide)
    have t9 : IsInt .i64 ds (off + i * 15 + 9) := a.c 2 (by decide)
    have t10 : IsInt .i64 ds (off + i * 15 + 10) := a.c 3 (by decide)
    have t11 : IsInt .i64 ds (off + i * 15 + 11) := a.c 4 (by decide)
    have t12 : IsInt .i64 ds (off + i * 15 + 12) := a.c 5 (by decide)
    have t13 : IsInt .i64 ds (off + i * 15 + 13) := a.c 6 (by decide)
    have t14 : IsInt .i64 ds (off + i * 15 + 14) := a.c 7 (by decide)
    have inA' : 0 ≤ intAt ds (off + i * 15 + 1) ∧ intAt ds (off + i * 15 + 1) < 4294967296 := a.ha
    have inB' : 0 ≤ intAt ds (off + i * 15 + 2) ∧ intAt ds (off + i * 15 + 2) < 4294967296 := a.hb
    have hf : FIn ts := ⟨hb, hi.fo⟩
    have hpr : ∀ _ : decide (nV (valAt ds (off + i * 15 + 5)) = 0) = false, PrOk (rowK (valAt ds (off + i * 15 + 5))) 0 (nV (valAt ds (off + i * 15 + 5))) := fun k => (rowK_ok (hx.row (of_decide_eq_false k))).pr.1
    obtain ⟨d1, d2⟩ := ti_dropT hi (intAt ds (off + i * 15 + 1))
    obtain ⟨s1, s2⟩ := ti_setNl hi (h := intAt ds (off + i * 15 + 1)) (q := intAt ds (off + i * 15 + 4)) (l := intAt ds (off + i * 15 + 6)) ⟨wu_in (intAt ds (off + i * 15 + 7)), wu_in (intAt ds (off + i * 15 + 8)), wu_in (intAt ds (off + i * 15 + 9)), wu_in (intAt ds (off + i * 15 + 10)), wu_in (intAt ds (off + i * 15 + 11)), wu_in (intAt ds (off + i * 15 + 12)), wu_in (intAt ds (off + i * 15 + 13)), wu_in (intAt ds (off + i * 15 + 14))⟩ (intAt ds (off + i * 15))
    obtain ⟨r1, r2⟩ := ti_raT hi (h := intAt ds (off + i * 15 + 1)) a.hb (intAt ds (off + i * 15))
    obtain ⟨n1, n2⟩ := ti_newT hi (u := intAt ds (off + i * 15 + 1)) (q := intAt ds (off + i * 15 + 4)) a.ha (newI ts (intAt ds (off + i * 15 + 1)) (intAt ds (off + i * 15 + 4))) (intAt ds (off + i * 15))
    have no := fun e => acts_no hb (intAt ds (off + i * 15 + 1)) e (intAt ds (off + i * 15))
    have dz := d1.ok.sz; have sz := s1.ok.sz; have rz := r1.ok.sz; have nz := n1.ok.sz
    have pz : setE ts (intAt ds (off + i * 15 + 1)) (intAt ds (off + i * 15 + 4)) (mayE (rowK (valAt ds (off + i * 15 + 5))) 0 (nV (valAt ds (off + i * 15 + 5))) (intAt ds (off + i * 15 + 6))) = 0 → ∀ c0 c1 c2 c3 c4 c5 c6 c7, (setP ts (intAt ds (off + i * 15 + 1)) (intAt ds (off + i * 15 + 4)) (.slice none 0 0) (intAt ds (off + i * 15 + 6)) c0 c1 c2 c3 c4 c5 c6 c7).size = 448 := fun k c0 c1 c2 c3 c4 c5 c6 c7 => by
      refine set_sz hb ?_
      cases hg : gdF ts (intAt ds (off + i * 15 + 1)) with
      | true => rfl
      | false => unfold setE at k; rw [hg] at k; cases k
    cases c0 : (intAt ds (off + i * 15) == 0) with
    | true =>
      have e0 := beq_iff_eq.1 c0
      have d2' : Acts ts (dropT ts (intAt ds (off + i * 15 + 1))) (intAt ds (off + i * 15 + 1)) (getX5 ts (intAt ds (off + i * 15 + 1))) (intAt ds (off + i * 15)) := by rw [e0]; exact d2
      simp only [Int.toNat_natCast, h1, t0, t1, t2, t3, t4, t5, t6, t7, t8, t9, t10, t11, t12, t13, t14, c0, hs, hb, inA', inB', d1, d2', dz, true_implies, false_implies, Bool.false_eq_true, Bool.true_eq_false, and_true, true_and, sB_d0_ok]
    | false =>
      cases c1 : (intAt ds (off + i * 15) == 1) with
      | true =>
        have e1 := beq_iff_eq.1 c1
        cases c2 : decide (nV (valAt ds (off + i * 15 + 5)) = 0) with
        | true =>
          simp only [Int.toNat_natCast, h1, t0, t1, t2, t3, t4, t5, t6, t7, t8, t9, t10, t11, t12, t13, t14, c0, c1, c2, hs, hb, hx, inA', inB', s1, s2, sz, true_implies, false_implies, Bool.false_eq_true, Bool.true_eq_false, and_true, true_and, sB_d0_ok]
        | false =>
          have hp := hpr c2
          cases c3 : decide (setE ts (intAt ds (off + i * 15 + 1)) (intAt ds (off + i * 15 + 4)) (mayE (rowK (valAt ds (off + i * 15 + 5))) 0 (nV (valAt ds (off + i * 15 + 5))) (intAt ds (off + i * 15 + 6))) = 0) with
          | true =>
            have pz := pz (of_decide_eq_true c3)
            have e3 := of_decide_eq_true c3
            have e2 := of_decide_eq_false c2
            simp only [Int.toNat_natCast, h1, t0, t1, t2, t3, t4, t5, t6, t7, t8, t9, t10, t11, t12, t13, t14, c0, c1, c2, c3, hs, hb, hx, hp, inA', inB', pz, true_implies, false_implies, Bool.false_eq_true, Bool.true_eq_false, and_true, true_and, sP_d0_ok, sB_d0_ok]
            exact ⟨e2, e3⟩
          | false =>
            have no := no (setE ts (intAt ds (off + i * 15 + 1)) (intAt ds (off + i * 15 + 4)) (mayE (rowK (valAt ds (off + i * 15 + 5))) 0 (nV (valAt ds (off + i * 15 + 5))) (intAt ds (off + i * 15 + 6))))
            simp only [Int.toNat_natCast, h1, t0, t1, t2, t3, t4, t5, t6, t7, t8, t9, t10, t11, t12, t13, t14, c0, c1, c2, c3, hs, hb, hx, hi, hp, no, inA', inB', true_implies, false_implies, Bool.false_eq_true, Bool.true_eq_false, and_true, true_and, sB_d0_ok]
      | false =>
        cases c2 : (intAt ds (off + i * 15) == 2) with
        | true =>
          simp only [Int.toNat_natCast, h1, t0, t1, t2, t3, t4, t5, t6, t7, t8, t9, t10, t11, t12, t13, t14, c0, c1, c2, hs, hb, hf, inA', inB', r1, r2, rz, true_implies, false_implies, Bool.false_eq_true, Bool.true_eq_false, and_true, true_and, sB_d0_ok]
        | false =>
          simp only [Int.toNat_natCast, h1, t0, t1, t2, t3, t4, t5, t6, t7, t8, t9, t10, t11, t12, t13, t14, c0, c1, c2, hs, hb, inA', inB', n1, n2, nz, true_implies, false_implies, Bool.false_eq_true, Bool.true_eq_false, and_true, true_and, sB_d0_ok]
  · rw [e1, e2, e3, e4, e5, e6, e7, e8]
    have e9 := e9
    have e10 := e10
    generalize intAt ds (off + i * 15 + 1) = hh at *
    generalize intAt ds (off + i * 15 + 4) = q at *
    generalize intAt ds (off + i * 15 + 6) = l at *
    have v1 := (rowK_ok (hx.row e9)).pr
    generalize nV (valAt ds (off + i * 15 + 5)) = N at *
    generalize rowK (valAt ds (off + i * 15 + 5)) = row at *
    have hg : gdF ts hh = true := by
      cases hg : gdF ts hh with
      | true => rfl
      | false => unfold setE at e10; rw [hg] at e10; cases e10
    have hq : 0 ≤ q ∧ q ≤ 64 := by
      unfold setE at e10
      rw [if_pos hg] at e10
      split at e10
      · rename_i k; exact ⟨k.1, k.2.1⟩
      · cases e10
    have hcs : (row.extract 0 (0 + N * 2)).size = N * 2 := by rw [ext_size (by rw [v1.2]; omega)]; omega
    have hpr : PrOk (row.extract 0 (0 + N * 2)) 0 N := pr_ext v1.1
    refine Good.learn (tid := 3) (id := 4) (ts := setP ts hh q (.slice none 0 0) l (wu (intAt ds (off + i * 15 + 7))) (wu (intAt ds (off + i * 15 + 8))) (wu (intAt ds (off + i * 15 + 9))) (wu (intAt ds (off + i * 15 + 10))) (wu (intAt ds (off + i * 15 + 11))) (wu (intAt ds (off + i * 15 + 12))) (wu (intAt ds (off + i * 15 + 13))) (wu (intAt ds (off + i * 15 + 14)))) (o := pl hh + 2) (off := .l 0) (n := .o N) (cap := .full 2) (tyT := 41) (wT := true) (b := ⟨.pop (row.extract 0 (0 + N * 2)), 89, true⟩) (by kernel_rfl) (by kernel_rfl) rfl rfl (by decide) fun Γ' k c cells R hm hgl hok hc _ => ?_
    have hmo : More Γ Γ' := fun g cs h => (hm g cs h).1
    have hi' : @TI Γ' ts := TI.more hmo hi
    have hsl : @SlV Γ' (.slice (some ⟨k, 0, none⟩) N c) := learn_sl hgl hok hcs hpr (by omega) hc
    obtain ⟨k1, k2⟩ := ti_set hi' hg (l := l) (v := .slice (some ⟨k, 0, none⟩) N c) hq hsl ⟨wu_in (intAt ds (off + i * 15 + 7)), wu_in (intAt ds (off + i * 15 + 8)), wu_in (intAt ds (off + i * 15 + 9)), wu_in (intAt ds (off + i * 15 + 10)), wu_in (intAt ds (off + i * 15 + 11)), wu_in (intAt ds (off + i * 15 + 12)), wu_in (intAt ds (off + i * 15 + 13)), wu_in (intAt ds (off + i * 15 + 14))⟩ (intAt ds (off + i * 15))
    have hset : ∀ w, (setP ts hh q (.slice none 0 0) l (wu (intAt ds (off + i * 15 + 7))) (wu (intAt ds (off + i * 15 + 8))) (wu (intAt ds (off + i * 15 + 9))) (wu (intAt ds (off + i * 15 + 10))) (wu (intAt ds (off + i * 15 + 11))) (wu (intAt ds (off + i * 15 + 12))) (wu (intAt ds (off + i * 15 + 13))) (wu (intAt ds (off + i * 15 + 14)))).setIfInBounds (pl hh + 2) w = setP ts hh q w l (wu (intAt ds (off + i * 15 + 7))) (wu (intAt ds (off + i * 15 + 8))) (wu (intAt ds (off + i * 15 + 9))) (wu (intAt ds (off + i * 15 + 10))) (wu (intAt ds (off + i * 15 + 11))) (wu (intAt ds (off + i * 15 + 12))) (wu (intAt ds (off + i * 15 + 13))) (wu (intAt ds (off + i * 15 + 14))) := fun w => set_set hi'.ok hg
    have hGB := sB_ok (off := off) (num := num) (ds := ds) (ty := ty) (i := i) hi' k1 k2 hn hin fun hlt => next hlt Γ' _ (AcOk.more hmo hac) k1
    rw [hset]
    generalize setP ts hh q (.slice (some ⟨k, 0, none⟩) N c) l (wu (intAt ds (off + i * 15 + 7))) (wu (intAt ds (off + i * 15 + 8))) (wu (intAt ds (off + i * 15 + 9))) (wu (intAt ds (off + i * 15 + 10))) (wu (intAt ds (off + i * 15 + 11))) (wu (intAt ds (off + i * 15 + 12))) (wu (intAt ds (off + i * 15 + 13))) (wu (intAt ds (off + i * 15 + 14))) = ks at hGB ⊢
    generalize setP ts hh q (.slice none 0 0) l (wu (intAt ds (off + i * 15 + 7))) (wu (intAt ds (off + i * 15 + 8))) (wu (intAt ds (off + i * 15 + 9))) (wu (intAt ds (off + i * 15 + 10))) (wu (intAt ds (off + i * 15 + 11))) (wu (intAt ds (off + i * 15 + 12))) (wu (intAt ds (off + i * 15 + 13))) (wu (intAt ds (off + i * 15 + 14))) = us
    have hb := tlF off num ds ty i hh 0 ts us (pl hh + 2) N (row.extract 0 (0 + N * 2)) ks (fun i' h' e' ts' ks' => i' = (i : Int) ∧ h' = hh ∧ e' = 0 ∧ ts' = ts ∧ ks' = ks)
    have hb := hb.mpr (by repeat' first | exact rfl | exact trivial | exact sB_d0_ok _ | apply And.intro)
    exact sB_good (fun i' h' e' ts' ks' ⟨f1, f2, f3, f4, f5⟩ => by rw [f1, f2, f3, f4, f5]; exact hGB) hb
end
end Go.Proofs.YtjjeahnbppmigaaDoor
/- Of tables: the first one. No condition. -/
namespace Go.Proofs.YtjjeahnbppmigaaDoor
set_option linter.unusedSectionVars false
variable [Gh]
set_option linter.unusedVariables false
set_option maxRecDepth 100000
omit [Gh] in
def vEq : Option Value → Option Value → Bool
  | some (.int k a), some (.int k' b) => decide (k = k') && decide (a = b)
  | some (.slice none 0 0), some (.slice none 0 0) => true
  | _, _ => false
omit [Gh] in
theorem vEq_ok {a b : Option Value} (h : vEq a b = true) : a = b := by
  unfold vEq at h
  split at h
  · simp only [Bool.and_eq_true, decide_eq_true_eq] at h
    rw [h.1, h.2]
  · rfl
  · cases h
omit [Gh] in
theorem zT_book : ∀ i, i < 32 → vEq (zT[i * 2]?) (some (.int .u32 0)) = true ∧ vEq (zT[i * 2 + 1]?) (some (.int .u8 0)) = true := by decide +kernel
omit [Gh] in
theorem zT_rg : ∀ i, i < 32 → ∀ k, k < 12 → vEq (zT[64 + i * 12 + k]?) ((rgA 0 0 0 fun _ => 0)[k]?) = true := by decide +kernel
omit [Gh] in
theorem z_bk {i : Nat} (hi : i < 32) : (bkB zT)[i * 2]? = some (.int .u32 0) ∧ (bkB zT)[i * 2 + 1]? = some (.int .u8 0) := by
  obtain ⟨h1, h2⟩ := zT_book i hi
  have h1 := vEq_ok h1
  have h2 := vEq_ok h2
  have hs := zT_sz
  unfold bkB
  rw [ext_get (by omega) (by omega), ext_get (by omega) (by omega), Nat.zero_add, Nat.zero_add]
  exact ⟨h1, h2⟩
omit [Gh] in
theorem z_kind {i : Nat} (hi : i < 32) : kindAt (bkB zT) i = 0 := intAt_of (z_bk hi).2
omit [Gh] in
theorem z_age {i : Nat} (hi : i < 32) : ageAt (bkB zT) i = 0 := intAt_of (z_bk hi).1
omit [Gh] in
theorem z_bkok : BkOk (bkB zT) := by
  refine ⟨by unfold bkB; rw [ext_size (by rw [zT_sz]; decide)], fun i hi => isI_of (z_bk hi).1, fun i hi => isI_of (z_bk hi).2, fun i hi => ?_, fun i hi => ?_⟩
  · rw [z_age hi]; exact ⟨by decide, by decide⟩
  · rw [z_kind hi]; exact ⟨by decide, by decide⟩
theorem z_tb : TbOk zT := ⟨zT_sz, z_bkok, fun i hi => rg_new (us := zT) (p := 64 + i * 12) (u := 0) (q := 0) (v := .slice none 0 0) (l := 0) (c0 := 0) (c1 := 0) (c2 := 0) (c3 := 0) (c4 := 0) (c5 := 0) (c6 := 0) (c7 := 0) (fun k hk => (vEq_ok (zT_rg i hi k hk)).trans (by rw [← Array.getElem?_toList]; rfl)) in0 ⟨by decide, by decide⟩ slv_nil ⟨in0, in0, in0, in0, in0, in0, in0, in0⟩⟩
theorem z_gd (x : Int) : gdF zT x = false := by
  cases c : gdF zT x with
  | false => rfl
  | true =>
    obtain ⟨_, _, s3, s4, _⟩ := good_f z_tb c
    rw [z_kind s3] at s4
    exact absurd s4 (by decide)
theorem z_lv : lvT zT = [] := by
  cases e : lvT zT with
  | nil => rfl
  | cons a l =>
    have : a ∈ lvT zT := by rw [e]; exact List.mem_cons_self ..
    have := (lv_mem z_tb).1 this
    rw [z_gd] at this
    cases this
theorem z_ti : TI zT := ti_of z_tb (rank := fun _ => 0) (fun x hx => by rw [z_lv] at hx; cases hx) (fun x hx => by rw [z_lv] at hx; cases hx)
end Go.Proofs.YtjjeahnbppmigaaDoor
/- Of TableAbove: its runs end with true. No condition. -/
namespace Go.Proofs.YtjjeahnbppmigaaDoor
set_option maxRecDepth 100000
set_option linter.unusedSimpArgs false
set_option linter.unusedVariables false
section
variable {off num : Nat} {ds : Array Value} {ty : TypeId}
theorem sA_all (hn : num ≤ 150) (h80 : ∀ j, j < num → nV (valAt ds (off + j * 15 + 5)) ≤ 80) : ∀ k i : Nat, i + (k + 1) = num → ∀ (Γ : Gh) (ts : Array Value), @AcOk Γ ds off num → @TI Γ ts → @GA Γ off num ds ty i ts := by
  intro k
  induction k with
  | zero => intro i hi Γ ts hac ht; exact sA_one Γ ts i hn (by omega) hac (h80 i (by omega)) ht fun h => by omega
  | succ k ih => intro i hi Γ ts hac ht; exact sA_one Γ ts i hn (by omega) hac (h80 i (by omega)) ht fun _ Γ' ks h1 h2 => ih (i + 1) (by omega) Γ' ks h1 h2
theorem above_row (Γ : Gh) (hac : @AcOk Γ ds off num) : @Good Γ Tryd.prog (isB true) 1 [callFr 4 Tryd.f4.ntmps [acS off num] (Tryd.f4.body.getD .skip)] (mkM 1 [(0, ⟨.raw ds, ty, false⟩)]) := by
  refine run_vc EL_ok 1000 (t0_vc off num ds ty (fun i ts => i = ((0 : Nat) : Int) ∧ ts = zT ∧ grB ds off num = false ∧ 0 < num)) ?_ (fun _ _ h => h) (fun fs m hb => t0_go (fun i ts ⟨e1, e2, e3, e4⟩ => by
    rw [e1, e2]
    obtain ⟨k1, k2⟩ := grB_no e3
    exact sA_all k1 k2 (num - 1) 0 (by omega) Γ zT hac z_ti) hb)
  refine ⟨⟨hac, trivial⟩, fun _ => rfl, fun h => ⟨fun h' => ⟨⟨rfl, rfl, h, by have := of_decide_eq_true h'; omega⟩, ?_⟩, fun _ => rfl⟩⟩
  repeat' first | exact rfl | exact trivial | exact sA_d0_ok _ | apply And.intro
theorem above_none (Γ : Gh) (ty : TypeId) : @Good Γ Tryd.prog (isB true) 1 [callFr 4 Tryd.f4.ntmps [.s (.c (.f .e0))] (Tryd.f4.body.getD .skip)] (mkM 1 []) := by
  refine run_vc EL_ok 1000 (tz_vc ty) ⟨fun h => (by cases h), fun _ => rfl⟩ (fun _ _ h => h) (fun _ _ h => h.elim)
end
end Go.Proofs.YtjjeahnbppmigaaDoor
