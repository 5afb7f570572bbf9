/- The document's table: Raise: its environment. -/
import Derived.Test.YtjjeahnbppmigaaDoorMC
import Derived.Test.YtjjeahnbppmigaaDoorMA
import Derived.Test.YtjjeahnbppmigaaDoorMB
import Derived.Test.YtjjeahnbppmigaaDoorE1
import Derived.Test.YtjjeahnbppmigaaDoorK15
import Derived.Test.YtjjeahnbppmigaaDoorK31
set_option linter.unusedVariables false
set_option linter.unusedSimpArgs false
namespace Go.Proofs.YtjjeahnbppmigaaDoor
set_option linter.unusedSectionVars false
variable [Gh]
set_option maxRecDepth 100000
theorem wra (ts ws : Array Value) (h u : Int) (o : Array Value) (e : Int) : (run (EI3 ts) 1000 0 [callFr 24 Tryd.f24.ntmps [wtS ws, i64 (.o h), i64 (.o u)] (Tryd.f24.body.getD .skip)] e0M).vc (weA o e) (fun _ _ => False) =
    ((Array.size ws = (448 : Nat) ∧ True) ∧ (SW ts ws ∧ TbOk ts ∧ True) ∧ (((!gdF ts h) == false) = true → (((u != (0 : Int)) == true) = true → (Array.size ws = (448 : Nat) ∧ True) ∧ (SW ts ws ∧ TbOk ts ∧ True) ∧ ((!gdF ts u) = true → (Array.size ws = (448 : Nat) ∧ True) ∧ (Array.size ws = (448 : Nat) ∧ Array.size ws = (448 : Nat) ∧ True) ∧ (Array.size ws = (448 : Nat) ∧ True) ∧ o = ws ∧ e = (4 : Int) ∧ True) ∧ ((!gdF ts u) = false → (((u != (0 : Int)) == true) = true → (((u == h) == false) = true → (Array.size ws = (448 : Nat) ∧ True) ∧ (SW ts ws ∧ FIn ts ∧ (u = (0 : Int) ∨ gdF ts u = true) ∧ True) ∧ (abF ts h u = true → (Array.size ws = (448 : Nat) ∧ True) ∧ (Array.size ws = (448 : Nat) ∧ Array.size ws = (448 : Nat) ∧ True) ∧ (Array.size ws = (448 : Nat) ∧ True) ∧ o = ws ∧ e = (12 : Int) ∧ True) ∧ (abF ts h u = false → (64 ≤ Array.size ws ∧ True) ∧ (WB (Array.extract ws (0 : Nat) (64)) ∧ True) ∧ (((0 : Int) ≤ slW (Array.extract ws (0 : Nat) (64)) h ∧ slW (Array.extract ws (0 : Nat) (64)) h < (32 : Int)) ∧ True) ∧ ((64 : Nat) + Int.toNat (slW (Array.extract ws (0 : Nat) (64)) h) * 12 < Array.size ws ∧ True) ∧ (Array.size (Array.setIfInBounds ws ((64 : Nat) + Int.toNat (slW (Array.extract ws (0 : Nat) (64)) h) * 12) (Value.int IntKind.i64 u)) = (448 : Nat) ∧ True) ∧ (Array.size (Array.setIfInBounds ws ((64 : Nat) + Int.toNat (slW (Array.extract ws (0 : Nat) (64)) h) * 12) (Value.int IntKind.i64 u)) = (448 : Nat) ∧ Array.size (Array.setIfInBounds ws ((64 : Nat) + Int.toNat (slW (Array.extract ws (0 : Nat) (64)) h) * 12) (Value.int IntKind.i64 u)) = (448 : Nat) ∧ True) ∧ (Array.size (Array.setIfInBounds ws ((64 : Nat) + Int.toNat (slW (Array.extract ws (0 : Nat) (64)) h) * 12) (Value.int IntKind.i64 u)) = (448 : Nat) ∧ True) ∧ o = Array.setIfInBounds ws ((64 : Nat) + Int.toNat (slW (Array.extract ws (0 : Nat) (64)) h) * 12) (Value.int IntKind.i64 u) ∧ e = (0 : Int) ∧ True)) ∧ (((u == h) == false) = false → (Array.size ws = (448 : Nat) ∧ True) ∧ (Array.size ws = (448 : Nat) ∧ Array.size ws = (448 : Nat) ∧ True) ∧ (Array.size ws = (448 : Nat) ∧ True) ∧ o = ws ∧ e = (12 : Int) ∧ True)) ∧ (((u != (0 : Int)) == true) = false → (64 ≤ Array.size ws ∧ True) ∧ (WB (Array.extract ws (0 : Nat) (64)) ∧ True) ∧ (((0 : Int) ≤ slW (Array.extract ws (0 : Nat) (64)) h ∧ slW (Array.extract ws (0 : Nat) (64)) h < (32 : Int)) ∧ True) ∧ ((64 : Nat) + Int.toNat (slW (Array.extract ws (0 : Nat) (64)) h) * 12 < Array.size ws ∧ True) ∧ (Array.size (Array.setIfInBounds ws ((64 : Nat) + Int.toNat (slW (Array.extract ws (0 : Nat) (64)) h) * 12) (Value.int IntKind.i64 u)) = (448 : Nat) ∧ True) ∧ (Array.size (Array.setIfInBounds ws ((64 : Nat) + Int.toNat (slW (Array.extract ws (0 : Nat) (64)) h) * 12) (Value.int IntKind.i64 u)) = (448 : Nat) ∧ Array.size (Array.setIfInBounds ws ((64 : Nat) + Int.toNat (slW (Array.extract ws (0 : Nat) (64)) h) * 12) (Value.int IntKind.i64 u)) = (448 : Nat) ∧ True) ∧ (Array.size (Array.setIfInBounds ws ((64 : Nat) + Int.toNat (slW (Array.extract ws (0 : Nat) (64)) h) * 12) (Value.int IntKind.i64 u)) = (448 : Nat) ∧ True) ∧ o = Array.setIfInBounds ws ((64 : Nat) + Int.toNat (slW (Array.extract ws (0 : Nat) (64)) h) * 12) (Value.int IntKind.i64 u) ∧ e = (0 : Int) ∧ True))) ∧ (((u != (0 : Int)) == true) = false → (((u != (0 : Int)) == true) = true → (((u == h) == false) = true → (Array.size ws = (448 : Nat) ∧ True) ∧ (SW ts ws ∧ FIn ts ∧ (u = (0 : Int) ∨ gdF ts u = true) ∧ True) ∧ (abF ts h u = true → (Array.size ws = (448 : Nat) ∧ True) ∧ (Array.size ws = (448 : Nat) ∧ Array.size ws = (448 : Nat) ∧ True) ∧ (Array.size ws = (448 : Nat) ∧ True) ∧ o = ws ∧ e = (12 : Int) ∧ True) ∧ (abF ts h u = false → (64 ≤ Array.size ws ∧ True) ∧ (WB (Array.extract ws (0 : Nat) (64)) ∧ True) ∧ (((0 : Int) ≤ slW (Array.extract ws (0 : Nat) (64)) h ∧ slW (Array.extract ws (0 : Nat) (64)) h < (32 : Int)) ∧ True) ∧ ((64 : Nat) + Int.toNat (slW (Array.extract ws (0 : Nat) (64)) h) * 12 < Array.size ws ∧ True) ∧ (Array.size (Array.setIfInBounds ws ((64 : Nat) + Int.toNat (slW (Array.extract ws (0 : Nat) (64)) h) * 12) (Value.int IntKind.i64 u)) = (448 : Nat) ∧ True) ∧ (Array.size (Array.setIfInBounds ws ((64 : Nat) + Int.toNat (slW (Array.extract ws (0 : Nat) (64)) h) * 12) (Value.int IntKind.i64 u)) = (448 : Nat) ∧ Array.size (Array.setIfInBounds ws ((64 : Nat) + Int.toNat (slW (Array.extract ws (0 : Nat) (64)) h) * 12) (Value.int IntKind.i64 u)) = (448 : Nat) ∧ True) ∧ (Array.size (Array.setIfInBounds ws ((64 : Nat) + Int.toNat (slW (Array.extract ws (0 : Nat) (64)) h) * 12) (Value.int IntKind.i64 u)) = (448 : Nat) ∧ True) ∧ o = Array.setIfInBounds ws ((64 : Nat) + Int.toNat (slW (Array.extract ws (0 : Nat) (64)) h) * 12) (Value.int IntKind.i64 u) ∧ e = (0 : Int) ∧ True)) ∧ (((u == h) == false) = false → (Array.size ws = (448 : Nat) ∧ True) ∧ (Array.size ws = (448 : Nat) ∧ Array.size ws = (448 : Nat) ∧ True) ∧ (Array.size ws = (448 : Nat) ∧ True) ∧ o = ws ∧ e = (12 : Int) ∧ True)) ∧ (((u != (0 : Int)) == true) = false → (64 ≤ Array.size ws ∧ True) ∧ (WB (Array.extract ws (0 : Nat) (64)) ∧ True) ∧ (((0 : Int) ≤ slW (Array.extract ws (0 : Nat) (64)) h ∧ slW (Array.extract ws (0 : Nat) (64)) h < (32 : Int)) ∧ True) ∧ ((64 : Nat) + Int.toNat (slW (Array.extract ws (0 : Nat) (64)) h) * 12 < Array.size ws ∧ True) ∧ (Array.size (Array.setIfInBounds ws ((64 : Nat) + Int.toNat (slW (Array.extract ws (0 : Nat) (64)) h) * 12) (Value.int IntKind.i64 u)) = (448 : Nat) ∧ True) ∧ (Array.size (Array.setIfInBounds ws ((64 : Nat) + Int.toNat (slW (Array.extract ws (0 : Nat) (64)) h) * 12) (Value.int IntKind.i64 u)) = (448 : Nat) ∧ Array.size (Array.setIfInBounds ws ((64 : Nat) + Int.toNat (slW (Array.extract ws (0 : Nat) (64)) h) * 12) (Value.int IntKind.i64 u)) = (448 : Nat) ∧ True) ∧ (Array.size (Array.setIfInBounds ws ((64 : Nat) + Int.toNat (slW (Array.extract ws (0 : Nat) (64)) h) * 12) (Value.int IntKind.i64 u)) = (448 : Nat) ∧ True) ∧ o = Array.setIfInBounds ws ((64 : Nat) + Int.toNat (slW (Array.extract ws (0 : Nat) (64)) h) * 12) (Value.int IntKind.i64 u) ∧ e = (0 : Int) ∧ True))) ∧ (((!gdF ts h) == false) = false → (Array.size ws = (448 : Nat) ∧ True) ∧ (Array.size ws = (448 : Nat) ∧ Array.size ws = (448 : Nat) ∧ True) ∧ (Array.size ws = (448 : Nat) ∧ True) ∧ o = ws ∧ e = (4 : Int) ∧ True)) := by kernel_rfl
end Go.Proofs.YtjjeahnbppmigaaDoor
/- The document's table: Raise, Set: contracts, and what they do to the two. No condition. -/
namespace Go.Proofs.YtjjeahnbppmigaaDoor
set_option linter.unusedSectionVars false
variable [Gh]
set_option maxRecDepth 100000
set_option linter.unusedSimpArgs false
set_option linter.unusedVariables false
theorem conI3_ok (ts : Array Value) : ∀ g l m t, conI3 ts g l m = some t → Con E0 g l m t := by
  intro g l m t h
  unfold conI3 at h
  split at h
  · rename_i ws a x; cases h
    refine Con.asked fun hq => Con.args (l' := [wtS ws, i64 (.o a.den), i64 (.o x.den)]) (fun R vs ha => by
      match vs, ha with
      | [v, w, u], ha => exact ⟨ha.1, ha.2.1, ha.2.2.1, trivial⟩) ?_
    intro A hs
    exact rabove_con a.den x.den m A ⟨fun p hp => hq p hp, hs⟩
  · exact conI2_ok ts _ _ _ _ h
theorem EI3_ok (ts : Array Value) : EnvOk (EI3 ts) := EnvOk.with E0_ok _ _ (conI3_ok ts)
section
variable {ts ws : Array Value} {h u : Int}
theorem SW.rows (w : SW ts ws) (hb : TbOk ts) {ts' ws' : Array Value} (e : bkB ts' = bkB ts) (sz : ws'.size = 448) (lo : ∀ j, j < 64 → ws'[j]? = ws[j]?) (r : ∀ x, gdF ts x = true → ∀ c, c < 12 → CellW ts' x c ws'[64 + sl x * 12 + c]?) (z : ∀ i, i < 32 → kindAt (bkB ts) i ≠ 1 → ∀ c, c < 12 → ws'[64 + i * 12 + c]? = ws[64 + i * 12 + c]?) : SW ts' ws' := by
  have en : ∀ i, nmF ts' i = nmF ts i := fun i => by unfold nmF; rw [e]
  refine SW.mk' sz (fun i hi => ?_) (fun i hi => ?_) (fun i hi hk c hc => ?_) (fun i hi hk c hc => ?_)
  · rw [lo i (by omega), e]; exact w.g i hi
  · rw [lo (32 + i) (by omega), e]; exact w.s i hi
  · rw [e] at hk
    have gx : gdF ts (nmF ts i) = true := (goodB_iff hb.bk).2 ⟨i, hi, hk, rfl⟩
    have es : sl (nmF ts i) = i := slotI_name hi (hb.bk.ra i hi)
    have := r _ gx c hc
    rw [es] at this
    rw [en]
    exact this
  · rw [e] at hk
    rw [z i hi hk c hc]
    exact w.z i hi hk c hc
theorem SW.cx (w : SW ts ws) (hb : TbOk ts) {x : Int} (hg : gdF ts x = true) {c : Nat} (hc : c < 12) : CellW ts x c ws[64 + sl x * 12 + c]? := by
  unfold CellW
  split
  · rename_i e; rw [e]; exact ⟨_, (w.sli hb hg).1, (w.sli hb hg).2⟩
  · rename_i e; exact w.cell hb hg hc e
theorem sl_inj (hb : TbOk ts) {x y : Int} (hx : gdF ts x = true) (hy : gdF ts y = true) (e : sl x = sl y) : x = y := by
  obtain ⟨_, _, _, _, nx, _⟩ := good_f hb hx
  obtain ⟨_, _, _, _, ny, _⟩ := good_f hb hy
  rw [nx, ny, e]
theorem sl_dead (hb : TbOk ts) {x : Int} (hx : gdF ts x = true) {i : Nat} (hk : kindAt (bkB ts) i ≠ 1) : sl x ≠ i := fun e => by
  obtain ⟨_, _, _, k, _⟩ := good_f hb hx
  rw [e] at k
  exact hk k
/-! Raise. -/
theorem raU (hb : TbOk ts) (hg : gdF ts h = true) {u : Int} (hu : u = 0 ∨ gdF ts u = true) (hi : inH u) : ∀ x, gdF ts x = true → upF (raS ts h u) x = if x = h then u else upF ts x := by
  intro x hx
  obtain ⟨r1, r2, r3, r4⟩ := raS_f hb hg hi
  split
  · rename_i c
    unfold upF
    rw [c, gd_bk r2, gd_bk r2, r3, if_pos hg]
    rcases hu with k | k
    · rw [k]; split <;> rfl
    · rw [if_pos k]
  · rename_i c
    exact up_bk r2 (rg_eq (r4 x hx c)).1
theorem raS_rest (hb : TbOk ts) (hg : gdF ts h = true) (u : Int) : quF (raS ts h u) h = quF ts h ∧ (∀ k, k < 8 → ceF (raS ts h u) h k = ceF ts h k) ∧ slF (raS ts h u) h = slF ts h ∧ lnF (raS ts h u) h = lnF ts h := by
  have out : ∀ k, k ≠ pl h → (raS ts h u)[k]? = ts[k]? := fun k hk => by unfold raS; exact set_out hk
  refine ⟨?_, fun k hk => ?_, ?_, ?_⟩
  · unfold quF intAt; rw [out _ (by omega)]
  · unfold ceF intAt; rw [out _ (by omega)]
  · unfold slF valAt; rw [out _ (by omega)]
  · unfold lnF intAt; rw [out _ (by omega)]
theorem SW.raise (w : SW ts ws) (hb : TbOk ts) (hg : gdF ts h = true) {u : Int} (hu : u = 0 ∨ gdF ts u = true) : SW (raS ts h u) (ws.setIfInBounds (64 + sl h * 12) (.int .i64 u)) := by
  have hi : inH u := by
    rcases hu with k | k
    · rw [k]; exact ⟨by decide, by decide⟩
    · exact (good_f hb k).2.2.2.2.2.1
  obtain ⟨r1, r2, r3, r4⟩ := raS_f hb hg hi
  have hz := w.sz
  have h32 := (good_f hb hg).2.2.1
  refine w.rows hb r2 (by rw [Array.size_setIfInBounds]; exact hz) (fun j hj => ?_) (fun x hx c hc => ?_) (fun i hi' hk c hc => ?_)
  · rw [Array.getElem?_setIfInBounds, if_neg (by omega)]
  · have x32 := (good_f hb hx).2.2.1
    have ux := raU hb hg hu hi x hx
    by_cases e : x = h
    · rw [e] at ux ⊢
      rw [if_pos rfl] at ux
      obtain ⟨q1, q2, q3, q4⟩ := raS_rest hb hg u
      have er : rwF (raS ts h u) h = rwD u (quF ts h) (lnF ts h) (ceF ts h) := rwD_eq ux q1 q4 q2
      by_cases c0 : c = 0
      · rw [c0, Array.getElem?_setIfInBounds, if_pos (Nat.add_zero _).symm, if_pos (by omega)]
        unfold CellW
        rw [er, if_neg (by decide)]
        rfl
      · rw [Array.getElem?_setIfInBounds, if_neg (by omega : ¬ 64 + sl h * 12 = 64 + sl h * 12 + c)]
        have := w.cx hb hg hc
        unfold CellW at this ⊢
        rw [er, q3]
        split
        · rename_i e2; rw [if_pos e2] at this; exact this
        · rename_i e2
          rw [if_neg e2] at this
          rw [this]
          exact rwD_up hc c0
    · have : sl x ≠ sl h := fun k => e (sl_inj hb hx hg k)
      rw [if_neg e] at ux
      rw [Array.getElem?_setIfInBounds, if_neg (by omega)]
      exact cw_same (r4 x hx e) ux (w.cx hb hx hc)
  · have := sl_dead hb hg hk
    rw [Array.getElem?_setIfInBounds, if_neg (by omega)]
theorem ra_in (hf : FIn ts) {u : Int} (hu : u = 0 ∨ gdF ts u = true) : decide (h ∈ chL (upF ts) u) = ((u != 0) && ((u == h) || abF ts h u)) := by
  rcases hu with k | k
  · rw [k, ch_zero]; rfl
  · have hu := (lv_mem hf.ok).2 k
    have nz := hf.fo.nz u hu
    rw [bne_iff_ne.2 nz, Bool.true_and, ch_cons hf.fo hu]
    unfold abF
    cases c : (u == h) with
    | true => rw [Bool.true_or]; exact decide_eq_true (by rw [beq_iff_eq.1 c]; exact List.mem_cons_self ..)
    | false =>
      rw [Bool.false_or]
      refine decide_eq_decide.2 ⟨fun m => (List.mem_cons.1 m).resolve_left fun e => beq_eq_false_iff_ne.1 c e.symm, fun m => List.mem_cons_of_mem _ m⟩
theorem rraise_con (h u : Int) (m : SMem) : Con E0 24 [wtS ws, i64 (.o h), i64 (.o u)] m (needs [SW ts ws, FIn ts] (.ret (weS (raW ts ws h u) (raE ts h u)) m)) := by
  refine Con.pure E0_ok (by kernel_rfl : E0.fn 24 = some Tryd.f24) (by kernel_rfl : Tryd.f24.body = some (Tryd.f24.body.getD .skip)) (by kernel_rfl) (by kernel_rfl) fun hq => ?_
  have w : SW ts ws := hq _ (by simp)
  have hf : FIn ts := hq _ (by simp)
  have hb := hf.ok
  have hz := w.sz
  have hle : 64 ≤ ws.size := by omega
  have h64 : (64 : Nat) ≤ 448 := by decide
  have wb := w.wb hb
  have es := w.slot hb h
  refine (Good.ret [] (run_vc (EI3_ok ts) 1000 (wra ts ws h u (raW ts ws h u) (raE ts h u)) ?_ (fun s m h => h) fun _ _ h => h.elim)).mono fun _ _ h => h.1
  have bad : (gdF ts h = false ∨ (u ≠ 0 ∧ gdF ts u = false)) → raW ts ws h u = ws ∧ raE ts h u = 4 := fun k => by
    have e1 : raE ts h u = 4 := by unfold raE; rw [if_pos k]
    exact ⟨by unfold raW; rw [if_neg (by rw [e1]; decide)], e1⟩
  cases hg : gdF ts h with
  | false =>
    obtain ⟨e1, e2⟩ := bad (.inl hg)
    simp only [hz, w, hb, hf, hg, e1, e2, beqT, beqF, Bool.not_false, Bool.not_true, Bool.true_eq_false, Bool.false_eq_true, true_implies, false_implies, and_true, true_and]
  | true =>
    rw [if_pos hg] at es
    have h32 := (good_f hb hg).2.2.1
    have y0 : (0 : Int) ≤ (sl h : Int) := by omega
    have y1 : (sl h : Int) < 32 := by omega
    have y2 : 64 + sl h * 12 < 448 := by omega
    by_cases hz0 : u = 0
    · have c0 : (u != 0) = false := by rw [hz0]; rfl
      have n1 : ¬ (gdF ts h = false ∨ (u ≠ 0 ∧ gdF ts u = false)) := by rintro (k | ⟨k, _⟩); (rw [hg] at k; cases k); exact k hz0
      have n2 : h ∉ chL (upF ts) u := by rw [hz0, ch_zero]; exact List.not_mem_nil
      have e1 : raE ts h u = 0 := by unfold raE; rw [if_neg n1, if_neg n2]
      have e2 : raW ts ws h u = ws.setIfInBounds (64 + sl h * 12) (.int .i64 u) := by unfold raW; rw [if_pos e1]
      simp only [hz, h64, hle, wb, w, hb, hf, hg, es, e1, e2, c0, y0, y1, y2, Int.toNat_natCast, Nat.zero_add, Array.size_setIfInBounds, beqT, beqF, Bool.not_false, Bool.not_true, Bool.true_eq_false, Bool.false_eq_true, true_implies, false_implies, and_true, true_and]
    · have c0 : (u != 0) = true := bne_iff_ne.2 hz0
      cases hgu : gdF ts u with
      | false =>
        obtain ⟨e1, e2⟩ := bad (.inr ⟨hz0, hgu⟩)
        simp only [hz, w, hb, hf, hg, hgu, e1, e2, c0, beqT, beqF, Bool.not_false, Bool.not_true, Bool.true_eq_false, Bool.false_eq_true, true_implies, false_implies, and_true, true_and]
      | true =>
        have n1 : ¬ (gdF ts h = false ∨ (u ≠ 0 ∧ gdF ts u = false)) := by
          rintro (k | ⟨_, k⟩)
          · rw [hg] at k; cases k
          · rw [hgu] at k; cases k
        have hin := ra_in (h := h) hf (.inr hgu)
        rw [c0, Bool.true_and] at hin
        cases c1 : (u == h) with
        | true =>
          rw [c1, Bool.true_or] at hin
          have e1 : raE ts h u = 12 := by unfold raE; rw [if_neg n1, if_pos (of_decide_eq_true hin)]
          have e2 : raW ts ws h u = ws := by unfold raW; rw [if_neg (by rw [e1]; decide)]
          simp only [hz, w, hb, hf, hg, hgu, e1, e2, c0, c1, beqT, beqF, Bool.not_false, Bool.not_true, Bool.true_eq_false, Bool.false_eq_true, true_implies, false_implies, and_true, true_and]
        | false =>
          rw [c1, Bool.false_or] at hin
          cases c2 : abF ts h u with
          | true =>
            rw [c2] at hin
            have e1 : raE ts h u = 12 := by unfold raE; rw [if_neg n1, if_pos (of_decide_eq_true hin)]
            have e2 : raW ts ws h u = ws := by unfold raW; rw [if_neg (by rw [e1]; decide)]
            simp only [hz, w, hb, hf, hg, hgu, e1, e2, c0, c1, c2, beqT, beqF, or_true, Bool.not_false, Bool.not_true, Bool.true_eq_false, Bool.false_eq_true, true_implies, false_implies, and_true, true_and]
          | false =>
            rw [c2] at hin
            have e1 : raE ts h u = 0 := by unfold raE; rw [if_neg n1, if_neg (of_decide_eq_false hin)]
            have e2 : raW ts ws h u = ws.setIfInBounds (64 + sl h * 12) (.int .i64 u) := by unfold raW; rw [if_pos e1]
            simp only [hz, h64, hle, wb, w, hb, hf, hg, hgu, es, e1, e2, c0, c1, c2, y0, y1, y2, Int.toNat_natCast, Nat.zero_add, Array.size_setIfInBounds, beqT, beqF, or_true, Bool.not_false, Bool.not_true, Bool.true_eq_false, Bool.false_eq_true, true_implies, false_implies, and_true, true_and]
/-! Set. -/
omit [Gh] in
def rwDL (u q : Int) (x : Value) (l c0 c1 c2 c3 c4 c5 c6 c7 : Int) : List Value := [.int .i64 u, .int .i64 q, x, .int .i64 l, .int .i64 c0, .int .i64 c1, .int .i64 c2, .int .i64 c3, .int .i64 c4, .int .i64 c5, .int .i64 c6, .int .i64 c7]
omit [Gh] in
def sdP (ts ws : Array Value) (h q : Int) (x : Value) (l c0 c1 c2 c3 c4 c5 c6 c7 : Int) : Array Value := putAt ws (64 + sl h * 12) (rwDL (upF ts h) q x l c0 c1 c2 c3 c4 c5 c6 c7)
noncomputable def sdW (ts ws : Array Value) (h q : Int) (x : Value) (l c0 c1 c2 c3 c4 c5 c6 c7 : Int) : Array Value := if setE ts h q (mayE (rowK x) 0 (nV x) l) = 0 then sdP ts ws h q x l c0 c1 c2 c3 c4 c5 c6 c7 else ws
theorem rset_con (h : Int) (q : Int) (v : Value) (l c0 c1 c2 c3 c4 c5 c6 c7 : Int) (m : SMem) : Con E0 23 [wtS ws, i64 (.o h), rgV (rgD u q (opC v) l c0 c1 c2 c3 c4 c5 c6 c7)] m (needs [SW ts ws, TbOk ts, SlX v] (.ret (weS (sdW ts ws h q v l c0 c1 c2 c3 c4 c5 c6 c7) (setE ts h q (mayE (rowK v) 0 (nV v) l))) m)) := by
  refine Con.pure E0_ok (by kernel_rfl : E0.fn 23 = some Tryd.f23) (by kernel_rfl : Tryd.f23.body = some (Tryd.f23.body.getD .skip)) rfl rfl fun hq => ?_
  have w : SW ts ws := hq _ (by simp)
  have hb : TbOk ts := hq _ (by simp)
  have hx : SlX v := hq _ (by simp)
  have hz := w.sz
  have h64 : (64 : Nat) ≤ 448 := by decide
  have wb := w.wb hb
  have es := w.slot hb h
  refine (Good.ret [] (run_vc EI1_ok 1000 (se0 ws h u q v l c0 c1 c2 c3 c4 c5 c6 c7 (sdW ts ws h q v l c0 c1 c2 c3 c4 c5 c6 c7) (setE ts h q (mayE (rowK v) 0 (nV v) l))) ?_ (fun s m h => h) fun _ _ h => h.elim)).mono fun _ _ h => h.1
  cases hg : gdF ts h with
  | false =>
    rw [if_neg (by rw [hg]; decide)] at es
    have d : decide (slW (ws.extract 0 64) h < 0) = true := decide_eq_true (by omega)
    have e2 : setE ts h q (mayE (rowK v) 0 (nV v) l) = 4 := by unfold setE; rw [hg]; rfl
    have e1 : sdW ts ws h q v l c0 c1 c2 c3 c4 c5 c6 c7 = ws := by unfold sdW; rw [e2]; rfl
    simp only [hz, h64, wb, d, e1, e2, Bool.true_eq_false, true_implies, false_implies, and_true, true_and]
  | true =>
    rw [if_pos hg] at es
    have h32 := (good_f hb hg).2.2.1
    have y0 : (0 : Int) ≤ (sl h : Int) := by omega
    have y1 : (sl h : Int) < 32 := by omega
    have d : decide ((sl h : Int) < 0) = false := decide_eq_false (by omega)
    have k0 : ws[64 + sl h * 12]? = some (.int .i64 (upF ts h)) := w.cell hb hg (j := 0) (by decide) (by decide)
    have no : ¬ (0 ≤ q ∧ q ≤ 64 ∧ mayE (rowK v) 0 (nV v) l = true) → setE ts h q (mayE (rowK v) 0 (nV v) l) = 2 ∧ sdW ts ws h q v l c0 c1 c2 c3 c4 c5 c6 c7 = ws := fun k => by
      have e2 : setE ts h q (mayE (rowK v) 0 (nV v) l) = 2 := by unfold setE; rw [if_pos hg, if_neg k]
      exact ⟨e2, by unfold sdW; rw [e2]; rfl⟩
    cases d1 : decide (q < 0) with
    | true =>
      obtain ⟨e2, e1⟩ := no fun k => by have := of_decide_eq_true d1; omega
      simp only [hz, h64, wb, d, es, d1, e1, e2, beqF, Bool.not_true, Bool.not_false, Bool.true_eq_false, Bool.false_eq_true, true_implies, false_implies, and_true, true_and]
    | false =>
      cases d2 : decide (q > 64) with
      | true =>
        obtain ⟨e2, e1⟩ := no fun k => by have := of_decide_eq_true d2; omega
        simp only [hz, h64, wb, d, es, d1, d2, e1, e2, beqF, Bool.not_true, Bool.not_false, Bool.true_eq_false, Bool.false_eq_true, true_implies, false_implies, and_true, true_and]
      | false =>
        cases d3 : mayE (rowK v) 0 (nV v) l with
        | false =>
          obtain ⟨e2, e1⟩ := no fun k => by rw [d3] at k; cases k.2.2
          rw [d3] at e2
          simp only [hz, h64, wb, d, es, hx, d1, d2, d3, e1, e2, beqF, Bool.not_true, Bool.not_false, Bool.true_eq_false, Bool.false_eq_true, true_implies, false_implies, and_true, true_and]
        | true =>
          have e2 : setE ts h q true = 0 := by unfold setE; rw [if_pos hg, if_pos ⟨by have := of_decide_eq_false d1; omega, by have := of_decide_eq_false d2; omega, rfl⟩]
          have e1 : sdW ts ws h q v l c0 c1 c2 c3 c4 c5 c6 c7 = sdP ts ws h q v l c0 c1 c2 c3 c4 c5 c6 c7 := by unfold sdW; rw [d3, e2]; rfl
          have ef : putAt ws (64 + sl h * 12) [Value.int .i64 (upF ts h), Value.int .i64 q, v, Value.int .i64 l, Value.int .i64 c0, Value.int .i64 c1, Value.int .i64 c2, Value.int .i64 c3, Value.int .i64 c4, Value.int .i64 c5, Value.int .i64 c6, Value.int .i64 c7] = sdP ts ws h q v l c0 c1 c2 c3 c4 c5 c6 c7 := rfl
          have zl : (rwDL (upF ts h) q v l c0 c1 c2 c3 c4 c5 c6 c7).length = 12 := rfl
          have z2 : 64 + sl h * 12 + (rwDL (upF ts h) q v l c0 c1 c2 c3 c4 c5 c6 c7).length ≤ ws.size := by rw [zl]; omega
          have z3 : (sdP ts ws h q v l c0 c1 c2 c3 c4 c5 c6 c7).size = 448 := by unfold sdP; rw [putAt_size z2]; exact hz
          have y4 : 64 + sl h * 12 + 12 ≤ 448 := by omega
          simp only [hz, h64, wb, d, es, hx, d1, d2, d3, y0, y1, y4, Int.toNat_natCast, isI_of k0, intAt_of k0, e1, e2, ef, z3, List.length_cons, List.length_nil, Nat.zero_add, beqT, beqF, Bool.not_true, Bool.not_false, Bool.true_eq_false, Bool.false_eq_true, true_implies, false_implies, and_true, true_and]
theorem SW.set (w : SW ts ws) (hb : TbOk ts) (hg : gdF ts h = true) {q l c0 c1 c2 c3 c4 c5 c6 c7 : Int} {p v : Value} (hq : 0 ≤ q ∧ q ≤ 64) (hp : SlV p) (hr : SR p v) (hcc : inH c0 ∧ inH c1 ∧ inH c2 ∧ inH c3 ∧ inH c4 ∧ inH c5 ∧ inH c6 ∧ inH c7) : SW (setP ts h q p l c0 c1 c2 c3 c4 c5 c6 c7) (sdP ts ws h q v l c0 c1 c2 c3 c4 c5 c6 c7) := by
  obtain ⟨r1, r2, r3, r4⟩ := set_f hb hg (q := q) (l := l) (v := p) hq hp hcc
  obtain ⟨v1, v2, v3, v4, v5, v6, v7, v8, v9, v10, v11, v12⟩ := rg_vals (set_cells hb hg (q := q) (l := l) (v := p) (c0 := c0) (c1 := c1) (c2 := c2) (c3 := c3) (c4 := c4) (c5 := c5) (c6 := c6) (c7 := c7))
  have hz := w.sz
  have h32 := (good_f hb hg).2.2.1
  have zl : (rwDL (upF ts h) q v l c0 c1 c2 c3 c4 c5 c6 c7).length = 12 := rfl
  have z2 : 64 + sl h * 12 + (rwDL (upF ts h) q v l c0 c1 c2 c3 c4 c5 c6 c7).length ≤ ws.size := by rw [zl]; omega
  have sz : (sdP ts ws h q v l c0 c1 c2 c3 c4 c5 c6 c7).size = 448 := by unfold sdP; rw [putAt_size z2]; exact hz
  refine w.rows hb r2 sz (fun j hj => ?_) (fun x hx c hc => ?_) (fun i hi' hk c hc => ?_)
  · unfold sdP; rw [putAt_out z2 (.inl (by omega))]
  · have x32 := (good_f hb hx).2.2.1
    by_cases e : x = h
    · rw [e]
      have eu : upF (setP ts h q p l c0 c1 c2 c3 c4 c5 c6 c7) h = upF ts h := up_bk r2 r3
      have e1 : (sdP ts ws h q v l c0 c1 c2 c3 c4 c5 c6 c7)[64 + sl h * 12 + c]? = (rwDL (upF ts h) q v l c0 c1 c2 c3 c4 c5 c6 c7)[c]? := by
        unfold sdP
        rw [putAt_in z2 (by omega) (by rw [zl]; omega)]
        congr 1
        omega
      rw [e1]
      unfold CellW
      rw [v3]
      split
      · rename_i e2; rw [e2]; exact ⟨v, rfl, hr⟩
      · rename_i e2
        have er : rwF (setP ts h q p l c0 c1 c2 c3 c4 c5 c6 c7) h = rwD (upF ts h) q l (ceF (setP ts h q p l c0 c1 c2 c3 c4 c5 c6 c7) h) := rwD_eq eu v2 v4 fun _ _ => rfl
        rw [er]
        unfold rwD rwDL
        rw [v5, v6, v7, v8, v9, v10, v11, v12]
        match c, hc, e2 with
        | 0, _, _ | 1, _, _ | 3, _, _ | 4, _, _ | 5, _, _ | 6, _, _ | 7, _, _ | 8, _, _ | 9, _, _ | 10, _, _ | 11, _, _ => rfl
    · have : sl x ≠ sl h := fun k => e (sl_inj hb hx hg k)
      unfold sdP
      rw [putAt_out z2 (by rw [zl]; omega)]
      exact cw_same (r4 x hx e) (up_bk r2 (rg_eq (r4 x hx e)).1) (w.cx hb hx hc)
  · have := sl_dead hb hg hk
    unfold sdP
    rw [putAt_out z2 (by rw [zl]; omega)]
end
end Go.Proofs.YtjjeahnbppmigaaDoor
/- Tables of generations, the program's and the document's: what they hold. No condition. -/
namespace Go.Proofs.YtjjeahnbppmigaaDoor
set_option linter.unusedSectionVars false
variable [Gh]
set_option maxRecDepth 100000
set_option linter.unusedSimpArgs false
set_option linter.unusedVariables false
omit [Gh] in
def GnIn (cs : Array Value) (off n : Nat) : Prop := ∀ i, i < n → IsInt .u32 cs (off + i) ∧ inH (intAt cs (off + i))
omit [Gh] in
theorem GnIn.ok {cs : Array Value} {off n : Nat} (h : GnIn cs off n) : GensOk cs off n := fun i hi => ⟨(h i hi).1, (h i hi).2.1⟩
omit [Gh] in
theorem GnIn.none (cs : Array Value) (off : Nat) : GnIn cs off 0 := fun i hi => absurd hi (Nat.not_lt_zero i)
omit [Gh] in
noncomputable def zB : Array Value := (List.replicate 64 (Value.int .i64 0)).toArray
omit [Gh] in
noncomputable def agW (cs : Array Value) (off : Nat) : Nat → Array Value
  | 0 => zB
  | i + 1 => (agW cs off i).setIfInBounds i (.int .i64 (minL (intAt cs (off + i))))
omit [Gh] in
noncomputable def agedW (cs : Array Value) (off n : Nat) : Array Value := agW cs off (min32 n)
omit [Gh] in
theorem zD_book : ∀ i, i < 64 → vEq (zW[i]?) (some (.int .i64 0)) = true := by decide +kernel
omit [Gh] in
theorem zD_rg : ∀ i, i < 32 → ∀ k, k < 12 → vEq (zW[64 + i * 12 + k]?) ((rwD 0 0 0 fun _ => 0)[k]?) = true := by decide +kernel
section
variable {cs : Array Value} {off n : Nat}
omit [Gh] in
theorem agW_size : ∀ i, (agW cs off i).size = 64
  | 0 => by kernel_rfl
  | i + 1 => by unfold agW; rw [Array.size_setIfInBounds]; exact agW_size i
omit [Gh] in
theorem zB_at {j : Nat} (h : j < 64) : zB[j]? = some (.int .i64 0) := by
  unfold zB
  rw [List.getElem?_toArray, List.getElem?_replicate, if_pos h]
omit [Gh] in
theorem bkZ_age {j : Nat} (h : j < 32) : ageAt bkZ j = 0 := intAt_of (bkZ_kind j h).1
omit [Gh] in
theorem agW_at : ∀ (i j : Nat), i ≤ 32 → j < 32 → (agW cs off i)[j]? = some (.int .i64 (ageAt (agB cs off i) j)) ∧ (agW cs off i)[32 + j]? = some (.int .i64 0)
  | 0, j, _, h => ⟨by show zB[j]? = some (.int .i64 (ageAt bkZ j)); rw [zB_at (by omega), bkZ_age h], zB_at (by omega)⟩
  | i + 1, j, hi, h => by
    obtain ⟨h1, h2⟩ := agW_at i j (by omega) h
    unfold agW agB
    constructor
    · rw [Array.getElem?_setIfInBounds]
      by_cases e : i = j
      · rw [if_pos e, if_pos (by rw [agW_size]; omega)]
        have : ageAt ((agB cs off i).setIfInBounds (i * 2) (.int .u32 (minL (intAt cs (off + i))))) j = minL (intAt cs (off + i)) := intAt_of (by rw [← e, set_in (by rw [agB_size]; omega)])
        rw [this]
      · rw [if_neg e, h1]
        have : ageAt ((agB cs off i).setIfInBounds (i * 2) (.int .u32 (minL (intAt cs (off + i))))) j = ageAt (agB cs off i) j := by
          unfold ageAt intAt
          rw [set_out (by omega)]
        rw [this]
    · rw [Array.getElem?_setIfInBounds, if_neg (by omega)]; exact h2
omit [Gh] in
noncomputable def agdT (cs : Array Value) (off n : Nat) : Array Value := putAt zT 0 (agedB cs off n).toList
omit [Gh] in
noncomputable def agdW (cs : Array Value) (off n : Nat) : Array Value := putAt zW 0 (agedW cs off n).toList
omit [Gh] in
theorem agdT_f : (agdT cs off n).size = 448 ∧ bkB (agdT cs off n) = agedB cs off n ∧ ∀ k, 64 ≤ k → (agdT cs off n)[k]? = zT[k]? := put_bk zT_sz (agB_size _)
omit [Gh] in
theorem agd_bk (h : GnIn cs off n) : BkOk (agedB cs off n) := aged_bk h.ok min32_le.1 min32_le.2
theorem agd_tb (h : GnIn cs off n) : TbOk (agdT cs off n) := by
  obtain ⟨h1, h2, h3⟩ := agdT_f (cs := cs) (off := off) (n := n)
  refine ⟨h1, by rw [h2]; exact agd_bk h, fun i hi => rg_new (us := agdT cs off n) (p := 64 + i * 12) (u := 0) (q := 0) (v := .slice none 0 0) (l := 0) (c0 := 0) (c1 := 0) (c2 := 0) (c3 := 0) (c4 := 0) (c5 := 0) (c6 := 0) (c7 := 0) (fun k hk => ?_) in0 ⟨by decide, by decide⟩ slv_nil ⟨in0, in0, in0, in0, in0, in0, in0, in0⟩⟩
  rw [h3 _ (by omega)]
  exact (vEq_ok (zT_rg i hi k hk)).trans (by rw [← Array.getElem?_toList]; rfl)
omit [Gh] in
theorem agd_kind {i : Nat} (hi : i < 32) : kindAt (bkB (agdT cs off n)) i = 0 := by
  rw [(agdT_f (cs := cs) (off := off) (n := n)).2.1]
  exact aged_kind _ i hi
theorem agd_gd (h : GnIn cs off n) (x : Int) : gdF (agdT cs off n) x = false := by
  cases c : gdF (agdT cs off n) x with
  | false => rfl
  | true =>
    obtain ⟨_, _, s3, s4, _⟩ := good_f (agd_tb h) c
    rw [agd_kind s3] at s4
    exact absurd s4 (by decide)
theorem agd_lv (h : GnIn cs off n) : lvT (agdT cs off n) = [] := by
  cases e : lvT (agdT cs off n) with
  | nil => rfl
  | cons a l =>
    have : a ∈ lvT (agdT cs off n) := by rw [e]; exact List.mem_cons_self ..
    have := (lv_mem (agd_tb h)).1 this
    rw [agd_gd h] at this
    cases this
theorem agd_ti (h : GnIn cs off n) : TI (agdT cs off n) := ti_of (agd_tb h) (rank := fun _ => 0) (fun x hx => by rw [agd_lv h] at hx; cases hx) (fun x hx => by rw [agd_lv h] at hx; cases hx)
theorem agd_sw (h : GnIn cs off n) : SW (agdT cs off n) (agdW cs off n) := by
  have sz : (agedW cs off n).toList.length = 64 := by rw [Array.length_toList]; exact agW_size _
  have z0 : 0 + (agedW cs off n).toList.length ≤ zW.size := by rw [sz, zW_sz]; decide
  have lo : ∀ j, j < 64 → (agdW cs off n)[j]? = (agedW cs off n)[j]? := fun j hj => by
    unfold agdW
    rw [putAt_in z0 (Nat.zero_le _) (by omega), Nat.sub_zero, Array.getElem?_toList]
  have eb := (agdT_f (cs := cs) (off := off) (n := n)).2.1
  have m := (min32_le (n := n)).2
  refine SW.mk' (by unfold agdW; rw [putAt_size z0]; exact zW_sz) (fun i hi => ?_) (fun i hi => ?_) (fun i hi hk => ?_) (fun i hi hk c hc => ?_)
  · rw [lo i (by omega), eb]; exact (agW_at _ i m hi).1
  · rw [lo (32 + i) (by omega), agd_kind hi]; exact (agW_at _ i m hi).2
  · rw [agd_kind hi] at hk; exact absurd hk (by decide)
  · unfold agdW
    rw [putAt_out z0 (.inr (by omega))]
    exact vEq_ok (zD_rg i hi c hc)
end
/-! The document's Aged. -/
section
variable {cs : Array Value} {off n : Nat} {ty : TypeId}
theorem rG_ok (hg : GnIn cs off n) {zz : Array Value} (hz : zz.size = 64) : ∀ (k i : Nat), i + k = min32 n → Good Tryd.prog (retOk 1 [] (bkS (agedW cs off n)) (rM cs ty)) 1 (rG_F off n cs ty (i : Int) (agW cs off i) zz) (rG_M off n cs ty (i : Int) (agW cs off i) zz) := by
  obtain ⟨m1, m2⟩ := min32_le (n := n)
  intro k
  induction k with
  | zero =>
    intro i hi
    refine past_vc EA_ok 1000 (ar1 off n cs ty (i : Int) (agW cs off i) zz (agedW cs off n) (fun _ _ _ => False)) ?_ (fun _ _ h => h) (fun fs m hb => rG_good (fun _ _ _ h => h.elim) hb)
    have e : agedW cs off n = agW cs off i := by unfold agedW; rw [show min32 n = i by omega]
    by_cases c : i < 32
    · have d1 : decide ((i : Int) < 32) = true := decide_eq_true (by omega)
      have d2 : decide ((i : Int) < (n : Int)) = false := decide_eq_false (by unfold min32 at hi; split at hi <;> omega)
      simp only [d1, d2, e, hz, agW_size, beqT, beqF, true_implies, Bool.true_eq_false, Bool.false_eq_true, false_implies, and_true, true_and]
    · have d1 : decide ((i : Int) < 32) = false := decide_eq_false (by omega)
      simp only [d1, e, hz, agW_size, beqT, beqF, true_implies, Bool.true_eq_false, Bool.false_eq_true, false_implies, and_true, true_and]
  | succ k ih =>
    intro i hi
    refine past_vc EA_ok 1000 (ar1 off n cs ty (i : Int) (agW cs off i) zz (agedW cs off n) (fun i' b' z' => i' = ((i + 1 : Nat) : Int) ∧ b' = agW cs off (i + 1) ∧ z' = zz)) ?_ (fun _ _ h => h)
      (fun fs m hb => rG_good (fun i' b' z' ⟨e1, e2, e3⟩ => by rw [e1, e2, e3]; exact ih (i + 1) (by omega)) hb)
    have d1 : decide ((i : Int) < 32) = true := decide_eq_true (by omega)
    have d2 : decide ((i : Int) < (n : Int)) = true := decide_eq_true (by omega)
    have ei : ari .add .i64 (i : Int) 1 = ((i + 1 : Nat) : Int) := by rw [ari_add, i64_in' (by omega) (by omega)]; omega
    obtain ⟨g1, g2, g3⟩ := hg i (by omega)
    have ew : IntKind.wrap .i64 (intAt cs (off + i)) = intAt cs (off + i) := i64_in' (by omega) (by omega)
    simp only [d1, d2, ei, ew, agW_size, beqT, beqF, Nat.zero_add, Nat.mul_one, Int.toNat_natCast, true_implies, Bool.true_eq_false, Bool.false_eq_true, false_implies, and_true, true_and, rG_d0_ok]
    exact ⟨⟨by omega, by omega⟩, g1, ⟨by omega, by omega⟩, by omega, rfl⟩
omit [Gh] in
theorem fnAR : E0.fn 8 = some Tryd.f8 := by kernel_rfl
omit [Gh] in
theorem bodyAR : Tryd.f8.body = some (Tryd.f8.body.getD .skip) := by kernel_rfl
omit [Gh] in
theorem zB_lit : zB = #[.int .i64 0, .int .i64 0, .int .i64 0, .int .i64 0, .int .i64 0, .int .i64 0, .int .i64 0, .int .i64 0, .int .i64 0, .int .i64 0, .int .i64 0, .int .i64 0, .int .i64 0, .int .i64 0, .int .i64 0, .int .i64 0, .int .i64 0, .int .i64 0, .int .i64 0, .int .i64 0, .int .i64 0, .int .i64 0, .int .i64 0, .int .i64 0, .int .i64 0, .int .i64 0, .int .i64 0, .int .i64 0, .int .i64 0, .int .i64 0, .int .i64 0, .int .i64 0, .int .i64 0, .int .i64 0, .int .i64 0, .int .i64 0, .int .i64 0, .int .i64 0, .int .i64 0, .int .i64 0, .int .i64 0, .int .i64 0, .int .i64 0, .int .i64 0, .int .i64 0, .int .i64 0, .int .i64 0, .int .i64 0, .int .i64 0, .int .i64 0, .int .i64 0, .int .i64 0, .int .i64 0, .int .i64 0, .int .i64 0, .int .i64 0, .int .i64 0, .int .i64 0, .int .i64 0, .int .i64 0, .int .i64 0, .int .i64 0, .int .i64 0, .int .i64 0] := by kernel_rfl
theorem agedR_good (hg : GnIn cs off n) : Good Tryd.prog (fun s m => s = bkS (agedW cs off n) ∧ m = rM cs ty) 1 [callFr 8 Tryd.f8.ntmps [gnS off n] (Tryd.f8.body.getD .skip)] (rM cs ty) := by
  refine Good.ret [] (run_vc EA_ok 1000 (ar0_vc off n cs ty (fun i b z => i = ((0 : Nat) : Int) ∧ b = agW cs off 0 ∧ z.size = 64)) ?_ (fun s m h => h.elim) fun fs m h => ar0_go (fun i b z ⟨e1, e2, e3⟩ => by rw [e1, e2]; exact rG_ok hg e3 (min32 n) 0 (by omega)) h)
  refine ⟨⟨rfl, zB_lit.symm, rfl⟩, ?_⟩
  repeat' (first | exact rfl | exact trivial | exact rG_d0_ok _ | refine ⟨?_, ?_⟩)
theorem agedR_con {m : SMem} {i : Nat} {o k : SN} {cap : SK} {wr : Bool} (hb : getB m.bl i = some ⟨.raw cs, ty, wr⟩) : Con E0 8 [.s (.c (.f (.slice i o k cap)))] m (needs [GnIn cs o.den k.den] (.ret (bkS (agedW cs o.den k.den)) m)) := by
  refine Con.roA E0_ok (l' := [gnS o.den k.den]) (ms := rM cs ty) (A := fun s m => s = bkS (agedW cs o.den k.den) ∧ m = rM cs ty) fnAR bodyAR rfl (fun _ => i) ?_ ?_ (fun hq => agedR_good (hq _ (List.mem_cons_self ..))) ?_
  · intro j b hj
    cases j with
    | zero => cases hj; exact ⟨Nat.zero_lt_one, rfl, _, hb, rfl, fun R cs' h => h⟩
    | succ j =>
      have hj : (Tr.node .nil (some ⟨.raw cs, ty, false⟩) .nil : Tr SBlk).get (j + 1) = some b := hj
      rw [Tr.get_succ, Tr.get_nil, ite_self] at hj
      cases hj
  · intro R vs ha
    match vs, ha with
    | [x], ha =>
      obtain ⟨⟨gl, cp, e1, e2, e3, e4⟩, _⟩ := ha
      exact ⟨⟨gl, cp, by unfold pull; exact e1, e2, trivial, e4⟩, trivial⟩
  · rintro s m' R R' v ⟨rfl, _⟩ hv
    exact hv
theorem agedR_none (m : SMem) : Con E0 8 [.s (.c (.f .e0))] m (needs [] (.ret (bkS zB) m)) := by
  refine Con.pure E0_ok fnAR bodyAR (by kernel_rfl) (by kernel_rfl) fun hq => ?_
  exact (Good.ret [] (run_vc E0_ok 1000 (arN zB) ⟨zB_lit, trivial⟩ (fun s m h => h) fun _ _ h => h.elim)).mono fun _ _ h => h.1
end
/-! The environment of table.Aged and of the law. -/
noncomputable def conA (ts : Array Value) (g : FuncId) (l : List SV) (m : SMem) : Option Tree := match g, l with
  | 20, [.s (.c (.f .e0))] => some (.ret (bkS bkZ) m)
  | 20, [.s (.c (.f (.slice i o k _)))] => (match getB m.bl i with | some ⟨.raw cs, _, _⟩ => some (.need [GnIn cs o.den k.den] (.ret (bkS (agedB cs o.den k.den)) m)) | _ => none)
  | 8, [.s (.c (.f .e0))] => some (.ret (bkS zB) m)
  | 8, [.s (.c (.f (.slice i o k _)))] => (match getB m.bl i with | some ⟨.raw cs, _, _⟩ => some (.need [GnIn cs o.den k.den] (.ret (bkS (agedW cs o.den k.den)) m)) | _ => none)
  | g, l => conI3 ts g l m
noncomputable def EAt (ts : Array Value) : Env := ⟨Tryd.prog, fnOf, conA ts, haltAt []⟩
theorem conA_ok (ts : Array Value) : ∀ g l m t, conA ts g l m = some t → Con E0 g l m t := by
  intro g l m t h
  unfold conA at h
  split at h
  · cases h; exact aged_none m
  · split at h
    · rename_i hb; cases h
      exact Con.asked fun hq A hs => aged_con hb A ⟨fun p hp => by
        obtain rfl := List.mem_singleton.1 hp
        exact (hq _ (List.mem_cons_self ..)).ok, hs⟩
    · cases h
  · cases h; exact agedR_none m
  · split at h
    · rename_i hb; cases h; exact agedR_con hb
    · cases h
  · exact conI3_ok ts _ _ _ _ h
theorem EAt_ok (ts : Array Value) : EnvOk (EAt ts) := EnvOk.with E0_ok _ _ (conA_ok ts)
end Go.Proofs.YtjjeahnbppmigaaDoor
/- Of tables: Aged: its runs. -/
namespace Go.Proofs.YtjjeahnbppmigaaDoor
set_option linter.unusedSectionVars false
variable [Gh]
set_option maxRecDepth 100000
theorem agT (ts : Array Value) (off n : Nat) (cs : Array Value) (ty : TypeId) (o : Array Value) : (run (EAt ts) 1000 1 [callFr 7 Tryd.f7.ntmps [gnS off n] (Tryd.f7.body.getD .skip)] (rM cs ty)).vc (retOk 1 [] (tbS o) (rM cs ty)) (fun _ _ => False) =
    ((GnIn cs off n ∧ True) ∧ (Array.size (agedB cs off n) = (64 : Nat) ∧ 64 ≤ (448 : Nat) ∧ True) ∧ (Array.size (putAt zT (0 : Nat) (Array.toList (agedB cs off n))) = (448 : Nat) ∧ Array.size (putAt zT (0 : Nat) (Array.toList (agedB cs off n))) = (448 : Nat) ∧ True) ∧ (Array.size (putAt zT (0 : Nat) (Array.toList (agedB cs off n))) = (448 : Nat) ∧ True) ∧ o = putAt zT (0 : Nat) (Array.toList (agedB cs off n)) ∧ ty = ty ∧ cs = cs ∧ True) := by kernel_rfl
theorem agTN (ts o : Array Value) : (run (EAt ts) 1000 0 [callFr 7 Tryd.f7.ntmps [.s (.c (.f .e0))] (Tryd.f7.body.getD .skip)] e0M).vc (retOk 0 [] (tbS o) e0M) (fun _ _ => False) =
    (((64 : Nat) = (64 : Nat) ∧ 64 ≤ (448 : Nat) ∧ True) ∧ ((448 : Nat) = (448 : Nat) ∧ (448 : Nat) = (448 : Nat) ∧ True) ∧ ((448 : Nat) = (448 : Nat) ∧ True) ∧ o = putAt zT (0 : Nat) (Array.toList bkZ) ∧ True) := by kernel_rfl
end Go.Proofs.YtjjeahnbppmigaaDoor
/- Of tables: Aged: contract. No condition. -/
namespace Go.Proofs.YtjjeahnbppmigaaDoor
set_option linter.unusedSectionVars false
variable [Gh]
set_option maxRecDepth 100000
set_option linter.unusedSimpArgs false
set_option linter.unusedVariables false
section
variable {cs : Array Value} {off n : Nat} {ty : TypeId}
omit [Gh] in
theorem fnAT : E0.fn 7 = some Tryd.f7 := by kernel_rfl
omit [Gh] in
theorem bodyAT : Tryd.f7.body = some (Tryd.f7.body.getD .skip) := by kernel_rfl
theorem agedT_good (hg : GnIn cs off n) : Good Tryd.prog (fun s m => s = tbS (agdT cs off n) ∧ m = rM cs ty) 1 [callFr 7 Tryd.f7.ntmps [gnS off n] (Tryd.f7.body.getD .skip)] (rM cs ty) := by
  refine Good.ret [] (run_vc (EAt_ok #[]) 1000 (agT #[] off n cs ty (agdT cs off n)) ?_ (fun s m h => h) fun fs m h => h.elim)
  have s1 : (agedB cs off n).size = 64 := agB_size _
  have s2 : (putAt zT 0 (agedB cs off n).toList).size = 448 := agdT_f.1
  exact ⟨⟨hg, trivial⟩, ⟨s1, by decide, trivial⟩, ⟨s2, s2, trivial⟩, ⟨s2, trivial⟩, rfl, rfl, rfl, trivial⟩
theorem agedT_con {m : SMem} {i : Nat} {o k : SN} {cap : SK} {wr : Bool} (hb : getB m.bl i = some ⟨.raw cs, ty, wr⟩) : Con E0 7 [.s (.c (.f (.slice i o k cap)))] m (needs [GnIn cs o.den k.den] (.ret (tbS (agdT cs o.den k.den)) m)) := by
  refine Con.roA E0_ok (l' := [gnS o.den k.den]) (ms := rM cs ty) (A := fun s m => s = tbS (agdT cs o.den k.den) ∧ m = rM cs ty) fnAT bodyAT rfl (fun _ => i) ?_ ?_ (fun hq => agedT_good (hq _ (List.mem_cons_self ..))) ?_
  · intro j b hj
    cases j with
    | zero => cases hj; exact ⟨Nat.zero_lt_one, rfl, _, hb, rfl, fun R cs' h => h⟩
    | succ j =>
      have hj : (Tr.node .nil (some ⟨.raw cs, ty, false⟩) .nil : Tr SBlk).get (j + 1) = some b := hj
      rw [Tr.get_succ, Tr.get_nil, ite_self] at hj
      cases hj
  · intro R vs ha
    match vs, ha with
    | [x], ha =>
      obtain ⟨⟨gl, cp, e1, e2, e3, e4⟩, _⟩ := ha
      exact ⟨⟨gl, cp, by unfold pull; exact e1, e2, trivial, e4⟩, trivial⟩
  · rintro s m' R R' v ⟨rfl, _⟩ hv
    exact hv
theorem agedT_none (m : SMem) : Con E0 7 [.s (.c (.f .e0))] m (needs [] (.ret (tbS (agdT #[] 0 0)) m)) := by
  refine Con.pure E0_ok fnAT bodyAT (by kernel_rfl) (by kernel_rfl) fun hq => ?_
  exact (Good.ret [] (run_vc (EAt_ok #[]) 1000 (agTN #[] (agdT #[] 0 0)) ⟨⟨rfl, by decide, trivial⟩, ⟨rfl, rfl, trivial⟩, ⟨rfl, trivial⟩, rfl, trivial⟩ (fun s m h => h) fun _ _ h => h.elim)).mono fun _ _ h => h.1
end
end Go.Proofs.YtjjeahnbppmigaaDoor
/- Of TablePlays: a handle, as acts have it: its run. -/
namespace Go.Proofs.YtjjeahnbppmigaaDoor
set_option linter.unusedSectionVars false
variable [Gh]
set_option maxRecDepth 100000
theorem nm0 (ts ws : Array Value) (n o : Int) : (run (EAt ts) 1000 0 [callFr 21 Tryd.f21.ntmps [wtS ws, u32 n] (Tryd.f21.body.getD .skip)] e0M).vc (retOk 0 [] (i64 (.o o)) e0M) (fun _ _ => False) =
    (((decide (n ≥ (1 : Int)) == true) = true → ((decide (n ≤ (32 : Int)) == true) = true → (((0 : Int) ≤ ari BinOp.sub IntKind.u32 n (1 : Int) ∧ ari BinOp.sub IntKind.u32 n (1 : Int) < (32 : Int)) ∧ True) ∧ (IsInt IntKind.i64 ws ((32 : Nat) + Int.toNat (ari BinOp.sub IntKind.u32 n (1 : Int)) * 1) ∧ True) ∧ ((intAt ws ((32 : Nat) + Int.toNat (ari BinOp.sub IntKind.u32 n (1 : Int)) * 1) == (1 : Int)) = true → (64 ≤ Array.size ws ∧ True) ∧ (WB (Array.extract ws (0 : Nat) (64)) ∧ ((0 : Int) ≤ IntKind.wrap IntKind.i64 (ari BinOp.sub IntKind.u32 n (1 : Int)) ∧ IntKind.wrap IntKind.i64 (ari BinOp.sub IntKind.u32 n (1 : Int)) < (32 : Int)) ∧ True) ∧ o = nameI (Int.toNat (IntKind.wrap IntKind.i64 (ari BinOp.sub IntKind.u32 n (1 : Int)))) (gnW (Array.extract ws (0 : Nat) (64)) (Int.toNat (IntKind.wrap IntKind.i64 (ari BinOp.sub IntKind.u32 n (1 : Int))))) ∧ True) ∧ ((intAt ws ((32 : Nat) + Int.toNat (ari BinOp.sub IntKind.u32 n (1 : Int)) * 1) == (1 : Int)) = false → o = IntKind.wrap IntKind.i64 n ∧ True)) ∧ ((decide (n ≤ (32 : Int)) == true) = false → o = IntKind.wrap IntKind.i64 n ∧ True)) ∧ ((decide (n ≥ (1 : Int)) == true) = false → o = IntKind.wrap IntKind.i64 n ∧ True)) := by kernel_rfl
end Go.Proofs.YtjjeahnbppmigaaDoor
/- Of TablePlays: the comparison of the two tables: its state. No condition. -/
namespace Go.Proofs.YtjjeahnbppmigaaDoor
set_option linter.unusedSectionVars false
variable [Gh]
set_option linter.unusedVariables false
noncomputable def conS (ts : Array Value) (g : FuncId) (l : List SV) (m : SMem) : Option Tree := match g, l with
  | 29, [.s (.agg (.op ws))] => some (.need [SW ts ws, TbOk ts] (rowW (lvT ts) m))
  | 31, [.s (.agg (.ls [.f (.slice i o n _), .f (.int .i64 x)])), .s (.agg (.ls [.f (.opq v), .f (.int .i64 y)]))] => (match getB m.bl i with | some ⟨.pop cs, _, _⟩ => some (.need [SlX v, PrOk cs o.den n.den, n.den = nV v, n.den ≠ 0, y.den = x.den, cs.extract o.den (o.den + n.den * 2) = rowK v] (.ret (sB (.l true)) m)) | _ => none)
  | 31, [.s (.agg (.ls [.f (.lit (.slice none 0 0)), .f (.int .i64 x)])), .s (.agg (.ls [.f (.opq v), .f (.int .i64 y)]))] => some (.need [SlX v, nV v = 0, y.den = x.den] (.ret (sB (.l true)) m))
  | g, l => conA ts g l m
noncomputable def ESe (ts : Array Value) : Env := ⟨Tryd.prog, fnOf, conS ts, haltAt [11 * 1000 + 5]⟩
omit [Gh] in
noncomputable def eS_d0 : List SIt := sekF Tryd.f11 5
omit [Gh] in
noncomputable def eS_F (ts : Array Value) (ws : Array Value) (i : Int) (n : Nat) (cs : Array Value) (k : Nat) (ds : Array Value) : List SFr := [frOf 11 Tryd.f11 [(2, ptr 0 (.l 0)), (3, ptr 1 (.l 0)), (5, slS 2 n), (6, slS 3 k), (7, i64 (.o i))] eS_d0]
omit [Gh] in
noncomputable def eS_M (ts : Array Value) (ws : Array Value) (i : Int) (n : Nat) (cs : Array Value) (k : Nat) (ds : Array Value) : SMem := mkM 4 [(0, ⟨.op ts, 41, true⟩), (1, ⟨.op ws, 55, true⟩), (2, ⟨.pop cs, 32, true⟩), (3, ⟨.pop ds, 3, true⟩)]
omit [Gh] in
noncomputable def eS_n (ts : Array Value) (ws : Array Value) (Q : Int → Nat → Array Value → Nat → Array Value → Prop) (fs : List SFr) (m : SMem) : Prop := (match frNth fs 0 with | some f0 => (match rdI f0 7 with | some i => (match rdP f0 2 with | some p0 => (match rdP f0 3 with | some p1 => (match rdSI f0 5 with | some p2 => (match rdSN f0 5 with | some n => (match rdA m p2 with | some cs => (match rdSI f0 6 with | some p3 => (match rdSN f0 6 with | some k => (match rdA m p3 with | some ds => Q i n cs k ds ∧ subOk 0 [(0, p0), (1, p1), (2, p2), (3, p3)] (eS_F ts ws i n cs k ds) (eS_M ts ws i n cs k ds) fs m | none => False) | none => False) | none => False) | none => False) | none => False) | none => False) | none => False) | none => False) | none => False) | none => False)
omit [Gh] in
noncomputable def eZ_d0 : List SIt := sekF Tryd.f11 5
omit [Gh] in
noncomputable def eZ_F (ts : Array Value) (ws : Array Value) (i : Int) : List SFr := [frOf 11 Tryd.f11 [(2, ptr 0 (.l 0)), (3, ptr 1 (.l 0)), (5, nlS), (6, nlS), (7, i64 (.o i))] eZ_d0]
omit [Gh] in
noncomputable def eZ_M (ts : Array Value) (ws : Array Value) (i : Int) : SMem := mkM 2 [(0, ⟨.op ts, 41, true⟩), (1, ⟨.op ws, 55, true⟩)]
omit [Gh] in
noncomputable def eZ_n (ts : Array Value) (ws : Array Value) (Q : Int → Prop) (fs : List SFr) (m : SMem) : Prop := (match frNth fs 0 with | some f0 => (match rdI f0 7 with | some i => (match rdP f0 2 with | some p0 => (match rdP f0 3 with | some p1 => Q i ∧ subOk 0 [(0, p0), (1, p1)] (eZ_F ts ws i) (eZ_M ts ws i) fs m | none => False) | none => False) | none => False) | none => False)
omit [Gh] in
noncomputable def eX (ts ws : Array Value) (Q : Int → Nat → Array Value → Nat → Array Value → Prop) (QZ : Int → Prop) (fs : List SFr) (m : SMem) : Prop := match (match frNth fs 0 with | some f0 => rdSI f0 5 | none => none) with | some _ => eS_n ts ws Q fs m | none => eZ_n ts ws QZ fs m
omit [Gh] in
theorem eS_d0_ok (r : Nat → Option Nat) : TodoOk r eS_d0 eS_d0 := TodoOk.it (by kernel_rfl)
omit [Gh] in
theorem eZ_d0_ok (r : Nat → Option Nat) : TodoOk r eZ_d0 eZ_d0 := TodoOk.it (by kernel_rfl)
theorem eS_good {A : SV → SMem → Prop} {ts : Array Value} {ws : Array Value} {Q : Int → Nat → Array Value → Nat → Array Value → Prop} {fs : List SFr} {m : SMem} (H : ∀ i n cs k ds, Q i n cs k ds → Good Tryd.prog A 0 (eS_F ts ws i n cs k ds) (eS_M ts ws i n cs k ds)) (hb : eS_n ts ws Q fs m) : Good Tryd.prog A 0 fs m := by
  unfold eS_n at hb
  split at hb
  rotate_left
  · exact hb.elim
  split at hb
  rotate_left
  · exact hb.elim
  split at hb
  rotate_left
  · exact hb.elim
  split at hb
  rotate_left
  · exact hb.elim
  split at hb
  rotate_left
  · exact hb.elim
  split at hb
  rotate_left
  · exact hb.elim
  split at hb
  rotate_left
  · exact hb.elim
  split at hb
  rotate_left
  · exact hb.elim
  split at hb
  rotate_left
  · exact hb.elim
  split at hb
  rotate_left
  · exact hb.elim
  exact Good.of_sub hb.2 (H _ _ _ _ _ hb.1)
theorem eZ_good {A : SV → SMem → Prop} {ts : Array Value} {ws : Array Value} {Q : Int → Prop} {fs : List SFr} {m : SMem} (H : ∀ i, Q i → Good Tryd.prog A 0 (eZ_F ts ws i) (eZ_M ts ws i)) (hb : eZ_n ts ws Q fs m) : Good Tryd.prog A 0 fs m := by
  unfold eZ_n at hb
  split at hb
  rotate_left
  · exact hb.elim
  split at hb
  rotate_left
  · exact hb.elim
  split at hb
  rotate_left
  · exact hb.elim
  split at hb
  rotate_left
  · exact hb.elim
  exact Good.of_sub hb.2 (H _ hb.1)
end Go.Proofs.YtjjeahnbppmigaaDoor
/- Of TablePlays: the comparison of the two tables: its state. -/
namespace Go.Proofs.YtjjeahnbppmigaaDoor
set_option linter.unusedSectionVars false
variable [Gh]
set_option maxRecDepth 100000
theorem es0 (ts ws : Array Value) (Q : Int → Nat → Array Value → Nat → Array Value → Prop) (QZ : Int → Prop) : (run (ESe ts) 1000 0 [callFr 11 Tryd.f11.ntmps [tbS ts, wtS ws] (Tryd.f11.body.getD .skip)] e0M).vc (retOk 0 [] (sB (.l true)) e0M) (eX ts ws Q QZ) =
    ((Array.size ts = (448 : Nat) ∧ True) ∧ (64 ≤ Array.size ts ∧ True) ∧ (BkOk (Array.extract ts (0 : Nat) (64)) ∧ True) ∧ (decide (List.length (issued (Array.extract ts (0 : Nat) (64))) = (0 : Nat)) = true → (Array.size ws = (448 : Nat) ∧ True) ∧ (SW ts ws ∧ TbOk ts ∧ True) ∧ (decide (List.length (lvT ts) = (0 : Nat)) = true → QZ (0 : Int) ∧ CallKind.normal = CallKind.normal ∧ TodoOk (ren 0 [(0, 0), (1, 1)]) eS_d0 eS_d0 ∧ (0 : Int) = (0 : Int) ∧ Value.slice none (0 : Nat) (0 : Nat) = Value.slice none (0 : Nat) (0 : Nat) ∧ Value.slice none (0 : Nat) (0 : Nat) = Value.slice none (0 : Nat) (0 : Nat) ∧ (41 : TypeId) = (41 : Nat) ∧ ts = ts ∧ (55 : TypeId) = (55 : Nat) ∧ ws = ws ∧ True) ∧ (decide (List.length (lvT ts) = (0 : Nat)) = false → (((0 : Int) != (↑(List.length (lvT ts)) : Int)) = true → False) ∧ (((0 : Int) != (↑(List.length (lvT ts)) : Int)) = false → QZ (0 : Int) ∧ False))) ∧ (decide (List.length (issued (Array.extract ts (0 : Nat) (64))) = (0 : Nat)) = false → (Array.size ws = (448 : Nat) ∧ True) ∧ (SW ts ws ∧ TbOk ts ∧ True) ∧ (decide (List.length (lvT ts) = (0 : Nat)) = true → (((↑(List.length (issued (Array.extract ts (0 : Nat) (64)))) : Int) != (0 : Int)) = true → False) ∧ (((↑(List.length (issued (Array.extract ts (0 : Nat) (64)))) : Int) != (0 : Int)) = false → False)) ∧ (decide (List.length (lvT ts) = (0 : Nat)) = false → (((↑(List.length (issued (Array.extract ts (0 : Nat) (64)))) : Int) != (↑(List.length (lvT ts)) : Int)) = true → False) ∧ (((↑(List.length (issued (Array.extract ts (0 : Nat) (64)))) : Int) != (↑(List.length (lvT ts)) : Int)) = false → Q (0 : Int) (List.length (issued (Array.extract ts (0 : Nat) (64)))) (u32s (issued (Array.extract ts (0 : Nat) (64)))) (List.length (lvT ts)) (i64s (lvT ts)) ∧ CallKind.normal = CallKind.normal ∧ TodoOk (ren 0 [(0, 0), (1, 1), (2, 3), (3, 4)]) eS_d0 eS_d0 ∧ (0 : Int) = (0 : Int) ∧ List.length (issued (Array.extract ts (0 : Nat) (64))) = List.length (issued (Array.extract ts (0 : Nat) (64))) ∧ List.length (lvT ts) = List.length (lvT ts) ∧ (41 : TypeId) = (41 : Nat) ∧ ts = ts ∧ (55 : TypeId) = (55 : Nat) ∧ ws = ws ∧ (3 : TypeId) = (3 : TypeId) ∧ i64s (lvT ts) = i64s (lvT ts) ∧ (32 : TypeId) = (32 : TypeId) ∧ u32s (issued (Array.extract ts (0 : Nat) (64))) = u32s (issued (Array.extract ts (0 : Nat) (64))) ∧ True)))) := by kernel_rfl
theorem esZ (ts ws : Array Value) (i : Int) : (stepT (ESe ts).go (run (ESe ts) 1000) 0 (eZ_F ts ws i) (eZ_M ts ws i)).vc (retOk 0 [] (sB (.l true)) e0M) (fun _ _ => False) =
    ((decide (i < (0 : Int)) = true → False) ∧ (decide (i < (0 : Int)) = false → True)) := by kernel_rfl
theorem es1 (ts ws : Array Value) (i : Int) (n : Nat) (cs : Array Value) (k : Nat) (ds : Array Value) (Q : Int → Nat → Array Value → Nat → Array Value → Prop) : (stepT (ESe ts).go (run (ESe ts) 1000) 0 (eS_F ts ws i n cs k ds) (eS_M ts ws i n cs k ds)).vc (retOk 0 [] (sB (.l true)) e0M) (eS_n ts ws Q) =
    ((decide (i < (↑n : Int)) = true → (((0 : Int) ≤ i ∧ i < (↑n : Int)) ∧ True) ∧ (IsInt IntKind.u32 cs ((0 : Nat) + Int.toNat i * 1) ∧ True) ∧ (((0 : Int) ≤ i ∧ i < (↑k : Int)) ∧ True) ∧ (IsInt IntKind.i64 ds ((0 : Nat) + Int.toNat i * 1) ∧ True) ∧ (((IntKind.wrap IntKind.i64 (intAt cs ((0 : Nat) + Int.toNat i * 1)) != intAt ds ((0 : Nat) + Int.toNat i * 1)) == false) = true → (64 ≤ Array.size ts ∧ True) ∧ (((0 : Int) ≤ i ∧ i < (↑n : Int)) ∧ True) ∧ (IsInt IntKind.u32 cs ((0 : Nat) + Int.toNat i * 1) ∧ True) ∧ (BkOk (Array.extract ts (0 : Nat) (64)) ∧ ((0 : Int) ≤ intAt cs ((0 : Nat) + Int.toNat i * 1) ∧ intAt cs ((0 : Nat) + Int.toNat i * 1) < (4294967296 : Int)) ∧ True) ∧ ((!goodB (Array.extract ts (0 : Nat) (64)) (intAt cs ((0 : Nat) + Int.toNat i * 1))) = true → False) ∧ ((!goodB (Array.extract ts (0 : Nat) (64)) (intAt cs ((0 : Nat) + Int.toNat i * 1))) = false → (Array.size ts = (448 : Nat) ∧ True) ∧ (((0 : Int) ≤ i ∧ i < (↑n : Int)) ∧ True) ∧ (IsInt IntKind.u32 cs ((0 : Nat) + Int.toNat i * 1) ∧ True) ∧ (TbOk ts ∧ ((0 : Int) ≤ intAt cs ((0 : Nat) + Int.toNat i * 1) ∧ intAt cs ((0 : Nat) + Int.toNat i * 1) < (4294967296 : Int)) ∧ True) ∧ (gdF ts (intAt cs ((0 : Nat) + Int.toNat i * 1)) = true → (decide (nV (slF ts (intAt cs ((0 : Nat) + Int.toNat i * 1))) = (0 : Nat)) = true → (Array.size ws = (448 : Nat) ∧ True) ∧ (((0 : Int) ≤ i ∧ i < (↑k : Int)) ∧ True) ∧ (IsInt IntKind.i64 ds ((0 : Nat) + Int.toNat i * 1) ∧ True) ∧ (SW ts ws ∧ TbOk ts ∧ True) ∧ (gdF ts (intAt ds ((0 : Nat) + Int.toNat i * 1)) = true → (true = true → (((IntKind.wrap IntKind.i64 (upF ts (intAt cs ((0 : Nat) + Int.toNat i * 1))) != upF ts (intAt ds ((0 : Nat) + Int.toNat i * 1))) == false) = true → (((quF ts (intAt cs ((0 : Nat) + Int.toNat i * 1)) != quF ts (intAt ds ((0 : Nat) + Int.toNat i * 1))) == false) = true → (SlX (dvF ts ws (intAt ds ((0 : Nat) + Int.toNat i * 1))) ∧ nV (dvF ts ws (intAt ds ((0 : Nat) + Int.toNat i * 1))) = (0 : Nat) ∧ lnF ts (intAt ds ((0 : Nat) + Int.toNat i * 1)) = lnF ts (intAt cs ((0 : Nat) + Int.toNat i * 1)) ∧ True) ∧ ((IntKind.wrap IntKind.i64 (ceF ts (intAt cs ((0 : Nat) + Int.toNat i * 1)) (0 : Nat)) != ceF ts (intAt ds ((0 : Nat) + Int.toNat i * 1)) (0 : Nat)) = true → False) ∧ ((IntKind.wrap IntKind.i64 (ceF ts (intAt cs ((0 : Nat) + Int.toNat i * 1)) (0 : Nat)) != ceF ts (intAt ds ((0 : Nat) + Int.toNat i * 1)) (0 : Nat)) = false → ((IntKind.wrap IntKind.i64 (ceF ts (intAt cs ((0 : Nat) + Int.toNat i * 1)) (1 : Nat)) != ceF ts (intAt ds ((0 : Nat) + Int.toNat i * 1)) (1 : Nat)) = true → False) ∧ ((IntKind.wrap IntKind.i64 (ceF ts (intAt cs ((0 : Nat) + Int.toNat i * 1)) (1 : Nat)) != ceF ts (intAt ds ((0 : Nat) + Int.toNat i * 1)) (1 : Nat)) = false → ((IntKind.wrap IntKind.i64 (ceF ts (intAt cs ((0 : Nat) + Int.toNat i * 1)) (2 : Nat)) != ceF ts (intAt ds ((0 : Nat) + Int.toNat i * 1)) (2 : Nat)) = true → False) ∧ ((IntKind.wrap IntKind.i64 (ceF ts (intAt cs ((0 : Nat) + Int.toNat i * 1)) (2 : Nat)) != ceF ts (intAt ds ((0 : Nat) + Int.toNat i * 1)) (2 : Nat)) = false → ((IntKind.wrap IntKind.i64 (ceF ts (intAt cs ((0 : Nat) + Int.toNat i * 1)) (3 : Nat)) != ceF ts (intAt ds ((0 : Nat) + Int.toNat i * 1)) (3 : Nat)) = true → False) ∧ ((IntKind.wrap IntKind.i64 (ceF ts (intAt cs ((0 : Nat) + Int.toNat i * 1)) (3 : Nat)) != ceF ts (intAt ds ((0 : Nat) + Int.toNat i * 1)) (3 : Nat)) = false → ((IntKind.wrap IntKind.i64 (ceF ts (intAt cs ((0 : Nat) + Int.toNat i * 1)) (4 : Nat)) != ceF ts (intAt ds ((0 : Nat) + Int.toNat i * 1)) (4 : Nat)) = true → False) ∧ ((IntKind.wrap IntKind.i64 (ceF ts (intAt cs ((0 : Nat) + Int.toNat i * 1)) (4 : Nat)) != ceF ts (intAt ds ((0 : Nat) + Int.toNat i * 1)) (4 : Nat)) = false → ((IntKind.wrap IntKind.i64 (ceF ts (intAt cs ((0 : Nat) + Int.toNat i * 1)) (5 : Nat)) != ceF ts (intAt ds ((0 : Nat) + Int.toNat i * 1)) (5 : Nat)) = true → False) ∧ ((IntKind.wrap IntKind.i64 (ceF ts (intAt cs ((0 : Nat) + Int.toNat i * 1)) (5 : Nat)) != ceF ts (intAt ds ((0 : Nat) + Int.toNat i * 1)) (5 : Nat)) = false → ((IntKind.wrap IntKind.i64 (ceF ts (intAt cs ((0 : Nat) + Int.toNat i * 1)) (6 : Nat)) != ceF ts (intAt ds ((0 : Nat) + Int.toNat i * 1)) (6 : Nat)) = true → False) ∧ ((IntKind.wrap IntKind.i64 (ceF ts (intAt cs ((0 : Nat) + Int.toNat i * 1)) (6 : Nat)) != ceF ts (intAt ds ((0 : Nat) + Int.toNat i * 1)) (6 : Nat)) = false → ((IntKind.wrap IntKind.i64 (ceF ts (intAt cs ((0 : Nat) + Int.toNat i * 1)) (7 : Nat)) != ceF ts (intAt ds ((0 : Nat) + Int.toNat i * 1)) (7 : Nat)) = true → False) ∧ ((IntKind.wrap IntKind.i64 (ceF ts (intAt cs ((0 : Nat) + Int.toNat i * 1)) (7 : Nat)) != ceF ts (intAt ds ((0 : Nat) + Int.toNat i * 1)) (7 : Nat)) = false → Q (ari BinOp.add IntKind.i64 i (1 : Int)) n cs k ds ∧ CallKind.normal = CallKind.normal ∧ TodoOk (ren 0 [(0, 0), (1, 1), (2, 2), (3, 3)]) eS_d0 eS_d0 ∧ ari BinOp.add IntKind.i64 i (1 : Int) = ari BinOp.add IntKind.i64 i (1 : Int) ∧ n = n ∧ k = k ∧ (41 : TypeId) = (41 : TypeId) ∧ ts = ts ∧ (55 : TypeId) = (55 : TypeId) ∧ ws = ws ∧ (3 : TypeId) = (3 : TypeId) ∧ ds = ds ∧ (32 : TypeId) = (32 : TypeId) ∧ cs = cs ∧ True))))))))) ∧ (((quF ts (intAt cs ((0 : Nat) + Int.toNat i * 1)) != quF ts (intAt ds ((0 : Nat) + Int.toNat i * 1))) == false) = false → False)) ∧ (((IntKind.wrap IntKind.i64 (upF ts (intAt cs ((0 : Nat) + Int.toNat i * 1))) != upF ts (intAt ds ((0 : Nat) + Int.toNat i * 1))) == false) = false → False)) ∧ (true = false → False)) ∧ (gdF ts (intAt ds ((0 : Nat) + Int.toNat i * 1)) = false → (true = true → (((IntKind.wrap IntKind.i64 (upF ts (intAt cs ((0 : Nat) + Int.toNat i * 1))) != (0 : Int)) == false) = true → (((quF ts (intAt cs ((0 : Nat) + Int.toNat i * 1)) != (0 : Int)) == false) = true → ((lnF ts (intAt cs ((0 : Nat) + Int.toNat i * 1)) != (0 : Int)) = true → False) ∧ ((lnF ts (intAt cs ((0 : Nat) + Int.toNat i * 1)) != (0 : Int)) = false → ((IntKind.wrap IntKind.i64 (ceF ts (intAt cs ((0 : Nat) + Int.toNat i * 1)) (0 : Nat)) != (0 : Int)) = true → False) ∧ ((IntKind.wrap IntKind.i64 (ceF ts (intAt cs ((0 : Nat) + Int.toNat i * 1)) (0 : Nat)) != (0 : Int)) = false → ((IntKind.wrap IntKind.i64 (ceF ts (intAt cs ((0 : Nat) + Int.toNat i * 1)) (1 : Nat)) != (0 : Int)) = true → False) ∧ ((IntKind.wrap IntKind.i64 (ceF ts (intAt cs ((0 : Nat) + Int.toNat i * 1)) (1 : Nat)) != (0 : Int)) = false → ((IntKind.wrap IntKind.i64 (ceF ts (intAt cs ((0 : Nat) + Int.toNat i * 1)) (2 : Nat)) != (0 : Int)) = true → False) ∧ ((IntKind.wrap IntKind.i64 (ceF ts (intAt cs ((0 : Nat) + Int.toNat i * 1)) (2 : Nat)) != (0 : Int)) = false → ((IntKind.wrap IntKind.i64 (ceF ts (intAt cs ((0 : Nat) + Int.toNat i * 1)) (3 : Nat)) != (0 : Int)) = true → False) ∧ ((IntKind.wrap IntKind.i64 (ceF ts (intAt cs ((0 : Nat) + Int.toNat i * 1)) (3 : Nat)) != (0 : Int)) = false → ((IntKind.wrap IntKind.i64 (ceF ts (intAt cs ((0 : Nat) + Int.toNat i * 1)) (4 : Nat)) != (0 : Int)) = true → False) ∧ ((IntKind.wrap IntKind.i64 (ceF ts (intAt cs ((0 : Nat) + Int.toNat i * 1)) (4 : Nat)) != (0 : Int)) = false → ((IntKind.wrap IntKind.i64 (ceF ts (intAt cs ((0 : Nat) + Int.toNat i * 1)) (5 : Nat)) != (0 : Int)) = true → False) ∧ ((IntKind.wrap IntKind.i64 (ceF ts (intAt cs ((0 : Nat) + Int.toNat i * 1)) (5 : Nat)) != (0 : Int)) = false → ((IntKind.wrap IntKind.i64 (ceF ts (intAt cs ((0 : Nat) + Int.toNat i * 1)) (6 : Nat)) != (0 : Int)) = true → False) ∧ ((IntKind.wrap IntKind.i64 (ceF ts (intAt cs ((0 : Nat) + Int.toNat i * 1)) (6 : Nat)) != (0 : Int)) = false → ((IntKind.wrap IntKind.i64 (ceF ts (intAt cs ((0 : Nat) + Int.toNat i * 1)) (7 : Nat)) != (0 : Int)) = true → False) ∧ ((IntKind.wrap IntKind.i64 (ceF ts (intAt cs ((0 : Nat) + Int.toNat i * 1)) (7 : Nat)) != (0 : Int)) = false → Q (ari BinOp.add IntKind.i64 i (1 : Int)) n cs k ds ∧ CallKind.normal = CallKind.normal ∧ TodoOk (ren 0 [(0, 0), (1, 1), (2, 2), (3, 3)]) eS_d0 eS_d0 ∧ ari BinOp.add IntKind.i64 i (1 : Int) = ari BinOp.add IntKind.i64 i (1 : Int) ∧ n = n ∧ k = k ∧ (41 : TypeId) = (41 : TypeId) ∧ ts = ts ∧ (55 : TypeId) = (55 : TypeId) ∧ ws = ws ∧ (3 : TypeId) = (3 : TypeId) ∧ ds = ds ∧ (32 : TypeId) = (32 : TypeId) ∧ cs = cs ∧ True)))))))))) ∧ (((quF ts (intAt cs ((0 : Nat) + Int.toNat i * 1)) != (0 : Int)) == false) = false → False)) ∧ (((IntKind.wrap IntKind.i64 (upF ts (intAt cs ((0 : Nat) + Int.toNat i * 1))) != (0 : Int)) == false) = false → False)) ∧ (true = false → False))) ∧ (decide (nV (slF ts (intAt cs ((0 : Nat) + Int.toNat i * 1))) = (0 : Nat)) = false → (Array.size ws = (448 : Nat) ∧ True) ∧ (((0 : Int) ≤ i ∧ i < (↑k : Int)) ∧ True) ∧ (IsInt IntKind.i64 ds ((0 : Nat) + Int.toNat i * 1) ∧ True) ∧ (SW ts ws ∧ TbOk ts ∧ True) ∧ (gdF ts (intAt ds ((0 : Nat) + Int.toNat i * 1)) = true → (true = true → (((IntKind.wrap IntKind.i64 (upF ts (intAt cs ((0 : Nat) + Int.toNat i * 1))) != upF ts (intAt ds ((0 : Nat) + Int.toNat i * 1))) == false) = true → (((quF ts (intAt cs ((0 : Nat) + Int.toNat i * 1)) != quF ts (intAt ds ((0 : Nat) + Int.toNat i * 1))) == false) = true → (SlX (dvF ts ws (intAt ds ((0 : Nat) + Int.toNat i * 1))) ∧ PrOk (rowK (slF ts (intAt cs ((0 : Nat) + Int.toNat i * 1)))) (0 : Nat) (nV (slF ts (intAt cs ((0 : Nat) + Int.toNat i * 1)))) ∧ nV (slF ts (intAt cs ((0 : Nat) + Int.toNat i * 1))) = nV (dvF ts ws (intAt ds ((0 : Nat) + Int.toNat i * 1))) ∧ nV (slF ts (intAt cs ((0 : Nat) + Int.toNat i * 1))) ≠ (0 : Nat) ∧ lnF ts (intAt ds ((0 : Nat) + Int.toNat i * 1)) = lnF ts (intAt cs ((0 : Nat) + Int.toNat i * 1)) ∧ Array.extract (rowK (slF ts (intAt cs ((0 : Nat) + Int.toNat i * 1)))) (0 : Nat) ((0 : Nat) + nV (slF ts (intAt cs ((0 : Nat) + Int.toNat i * 1))) * 2) = rowK (dvF ts ws (intAt ds ((0 : Nat) + Int.toNat i * 1))) ∧ True) ∧ ((IntKind.wrap IntKind.i64 (ceF ts (intAt cs ((0 : Nat) + Int.toNat i * 1)) (0 : Nat)) != ceF ts (intAt ds ((0 : Nat) + Int.toNat i * 1)) (0 : Nat)) = true → False) ∧ ((IntKind.wrap IntKind.i64 (ceF ts (intAt cs ((0 : Nat) + Int.toNat i * 1)) (0 : Nat)) != ceF ts (intAt ds ((0 : Nat) + Int.toNat i * 1)) (0 : Nat)) = false → ((IntKind.wrap IntKind.i64 (ceF ts (intAt cs ((0 : Nat) + Int.toNat i * 1)) (1 : Nat)) != ceF ts (intAt ds ((0 : Nat) + Int.toNat i * 1)) (1 : Nat)) = true → False) ∧ ((IntKind.wrap IntKind.i64 (ceF ts (intAt cs ((0 : Nat) + Int.toNat i * 1)) (1 : Nat)) != ceF ts (intAt ds ((0 : Nat) + Int.toNat i * 1)) (1 : Nat)) = false → ((IntKind.wrap IntKind.i64 (ceF ts (intAt cs ((0 : Nat) + Int.toNat i * 1)) (2 : Nat)) != ceF ts (intAt ds ((0 : Nat) + Int.toNat i * 1)) (2 : Nat)) = true → False) ∧ ((IntKind.wrap IntKind.i64 (ceF ts (intAt cs ((0 : Nat) + Int.toNat i * 1)) (2 : Nat)) != ceF ts (intAt ds ((0 : Nat) + Int.toNat i * 1)) (2 : Nat)) = false → ((IntKind.wrap IntKind.i64 (ceF ts (intAt cs ((0 : Nat) + Int.toNat i * 1)) (3 : Nat)) != ceF ts (intAt ds ((0 : Nat) + Int.toNat i * 1)) (3 : Nat)) = true → False) ∧ ((IntKind.wrap IntKind.i64 (ceF ts (intAt cs ((0 : Nat) + Int.toNat i * 1)) (3 : Nat)) != ceF ts (intAt ds ((0 : Nat) + Int.toNat i * 1)) (3 : Nat)) = false → ((IntKind.wrap IntKind.i64 (ceF ts (intAt cs ((0 : Nat) + Int.toNat i * 1)) (4 : Nat)) != ceF ts (intAt ds ((0 : Nat) + Int.toNat i * 1)) (4 : Nat)) = true → False) ∧ ((IntKind.wrap IntKind.i64 (ceF ts (intAt cs ((0 : Nat) + Int.toNat i * 1)) (4 : Nat)) != ceF ts (intAt ds ((0 : Nat) + Int.toNat i * 1)) (4 : Nat)) = false → ((IntKind.wrap IntKind.i64 (ceF ts (intAt cs ((0 : Nat) + Int.toNat i * 1)) (5 : Nat)) != ceF ts (intAt ds ((0 : Nat) + Int.toNat i * 1)) (5 : Nat)) = true → False) ∧ ((IntKind.wrap IntKind.i64 (ceF ts (intAt cs ((0 : Nat) + Int.toNat i * 1)) (5 : Nat)) != ceF ts (intAt ds ((0 : Nat) + Int.toNat i * 1)) (5 : Nat)) = false → ((IntKind.wrap IntKind.i64 (ceF ts (intAt cs ((0 : Nat) + Int.toNat i * 1)) (6 : Nat)) != ceF ts (intAt ds ((0 : Nat) + Int.toNat i * 1)) (6 : Nat)) = true → False) ∧ ((IntKind.wrap IntKind.i64 (ceF ts (intAt cs ((0 : Nat) + Int.toNat i * 1)) (6 : Nat)) != ceF ts (intAt ds ((0 : Nat) + Int.toNat i * 1)) (6 : Nat)) = false → ((IntKind.wrap IntKind.i64 (ceF ts (intAt cs ((0 : Nat) + Int.toNat i * 1)) (7 : Nat)) != ceF ts (intAt ds ((0 : Nat) + Int.toNat i * 1)) (7 : Nat)) = true → False) ∧ ((IntKind.wrap IntKind.i64 (ceF ts (intAt cs ((0 : Nat) + Int.toNat i * 1)) (7 : Nat)) != ceF ts (intAt ds ((0 : Nat) + Int.toNat i * 1)) (7 : Nat)) = false → Q (ari BinOp.add IntKind.i64 i (1 : Int)) n cs k ds ∧ CallKind.normal = CallKind.normal ∧ TodoOk (ren 0 [(0, 0), (1, 1), (2, 2), (3, 3)]) eS_d0 eS_d0 ∧ ari BinOp.add IntKind.i64 i (1 : Int) = ari BinOp.add IntKind.i64 i (1 : Int) ∧ n = n ∧ k = k ∧ (41 : TypeId) = (41 : TypeId) ∧ ts = ts ∧ (55 : TypeId) = (55 : TypeId) ∧ ws = ws ∧ (3 : TypeId) = (3 : TypeId) ∧ ds = ds ∧ (32 : TypeId) = (32 : TypeId) ∧ cs = cs ∧ True))))))))) ∧ (((quF ts (intAt cs ((0 : Nat) + Int.toNat i * 1)) != quF ts (intAt ds ((0 : Nat) + Int.toNat i * 1))) == false) = false → False)) ∧ (((IntKind.wrap IntKind.i64 (upF ts (intAt cs ((0 : Nat) + Int.toNat i * 1))) != upF ts (intAt ds ((0 : Nat) + Int.toNat i * 1))) == false) = false → False)) ∧ (true = false → False)) ∧ (gdF ts (intAt ds ((0 : Nat) + Int.toNat i * 1)) = false → (true = true → (((IntKind.wrap IntKind.i64 (upF ts (intAt cs ((0 : Nat) + Int.toNat i * 1))) != (0 : Int)) == false) = true → (((quF ts (intAt cs ((0 : Nat) + Int.toNat i * 1)) != (0 : Int)) == false) = true → ((((↑(nV (slF ts (intAt cs ((0 : Nat) + Int.toNat i * 1)))) : Int) != (0 : Int)) == false) = true → ((lnF ts (intAt cs ((0 : Nat) + Int.toNat i * 1)) != (0 : Int)) = true → False) ∧ ((lnF ts (intAt cs ((0 : Nat) + Int.toNat i * 1)) != (0 : Int)) = false → (decide ((0 : Int) < (↑(nV (slF ts (intAt cs ((0 : Nat) + Int.toNat i * 1)))) : Int)) = true → (((0 : Int) ≤ (0 : Int) ∧ (0 : Int) < (↑(nV (slF ts (intAt cs ((0 : Nat) + Int.toNat i * 1)))) : Int)) ∧ True) ∧ (IsInt IntKind.i64 (rowK (slF ts (intAt cs ((0 : Nat) + Int.toNat i * 1)))) ((0 : Nat) + 0 * 2) ∧ True) ∧ False) ∧ (decide ((0 : Int) < (↑(nV (slF ts (intAt cs ((0 : Nat) + Int.toNat i * 1)))) : Int)) = false → ((IntKind.wrap IntKind.i64 (ceF ts (intAt cs ((0 : Nat) + Int.toNat i * 1)) (0 : Nat)) != (0 : Int)) = true → False) ∧ ((IntKind.wrap IntKind.i64 (ceF ts (intAt cs ((0 : Nat) + Int.toNat i * 1)) (0 : Nat)) != (0 : Int)) = false → ((IntKind.wrap IntKind.i64 (ceF ts (intAt cs ((0 : Nat) + Int.toNat i * 1)) (1 : Nat)) != (0 : Int)) = true → False) ∧ ((IntKind.wrap IntKind.i64 (ceF ts (intAt cs ((0 : Nat) + Int.toNat i * 1)) (1 : Nat)) != (0 : Int)) = false → ((IntKind.wrap IntKind.i64 (ceF ts (intAt cs ((0 : Nat) + Int.toNat i * 1)) (2 : Nat)) != (0 : Int)) = true → False) ∧ ((IntKind.wrap IntKind.i64 (ceF ts (intAt cs ((0 : Nat) + Int.toNat i * 1)) (2 : Nat)) != (0 : Int)) = false → ((IntKind.wrap IntKind.i64 (ceF ts (intAt cs ((0 : Nat) + Int.toNat i * 1)) (3 : Nat)) != (0 : Int)) = true → False) ∧ ((IntKind.wrap IntKind.i64 (ceF ts (intAt cs ((0 : Nat) + Int.toNat i * 1)) (3 : Nat)) != (0 : Int)) = false → ((IntKind.wrap IntKind.i64 (ceF ts (intAt cs ((0 : Nat) + Int.toNat i * 1)) (4 : Nat)) != (0 : Int)) = true → False) ∧ ((IntKind.wrap IntKind.i64 (ceF ts (intAt cs ((0 : Nat) + Int.toNat i * 1)) (4 : Nat)) != (0 : Int)) = false → ((IntKind.wrap IntKind.i64 (ceF ts (intAt cs ((0 : Nat) + Int.toNat i * 1)) (5 : Nat)) != (0 : Int)) = true → False) ∧ ((IntKind.wrap IntKind.i64 (ceF ts (intAt cs ((0 : Nat) + Int.toNat i * 1)) (5 : Nat)) != (0 : Int)) = false → ((IntKind.wrap IntKind.i64 (ceF ts (intAt cs ((0 : Nat) + Int.toNat i * 1)) (6 : Nat)) != (0 : Int)) = true → False) ∧ ((IntKind.wrap IntKind.i64 (ceF ts (intAt cs ((0 : Nat) + Int.toNat i * 1)) (6 : Nat)) != (0 : Int)) = false → ((IntKind.wrap IntKind.i64 (ceF ts (intAt cs ((0 : Nat) + Int.toNat i * 1)) (7 : Nat)) != (0 : Int)) = true → False) ∧ ((IntKind.wrap IntKind.i64 (ceF ts (intAt cs ((0 : Nat) + Int.toNat i * 1)) (7 : Nat)) != (0 : Int)) = false → Q (ari BinOp.add IntKind.i64 i (1 : Int)) n cs k ds ∧ CallKind.normal = CallKind.normal ∧ TodoOk (ren 0 [(0, 0), (1, 1), (2, 2), (3, 3)]) eS_d0 eS_d0 ∧ ari BinOp.add IntKind.i64 i (1 : Int) = ari BinOp.add IntKind.i64 i (1 : Int) ∧ n = n ∧ k = k ∧ (41 : TypeId) = (41 : TypeId) ∧ ts = ts ∧ (55 : TypeId) = (55 : TypeId) ∧ ws = ws ∧ (3 : TypeId) = (3 : TypeId) ∧ ds = ds ∧ (32 : TypeId) = (32 : TypeId) ∧ cs = cs ∧ True))))))))))) ∧ ((((↑(nV (slF ts (intAt cs ((0 : Nat) + Int.toNat i * 1)))) : Int) != (0 : Int)) == false) = false → False)) ∧ (((quF ts (intAt cs ((0 : Nat) + Int.toNat i * 1)) != (0 : Int)) == false) = false → False)) ∧ (((IntKind.wrap IntKind.i64 (upF ts (intAt cs ((0 : Nat) + Int.toNat i * 1))) != (0 : Int)) == false) = false → False)) ∧ (true = false → False)))) ∧ (gdF ts (intAt cs ((0 : Nat) + Int.toNat i * 1)) = false → (Array.size ws = (448 : Nat) ∧ True) ∧ (((0 : Int) ≤ i ∧ i < (↑k : Int)) ∧ True) ∧ (IsInt IntKind.i64 ds ((0 : Nat) + Int.toNat i * 1) ∧ True) ∧ (SW ts ws ∧ TbOk ts ∧ True) ∧ (gdF ts (intAt ds ((0 : Nat) + Int.toNat i * 1)) = true → (false = true → ((((0 : Int) != upF ts (intAt ds ((0 : Nat) + Int.toNat i * 1))) == false) = true → ((((0 : Int) != quF ts (intAt ds ((0 : Nat) + Int.toNat i * 1))) == false) = true → (SlX (dvF ts ws (intAt ds ((0 : Nat) + Int.toNat i * 1))) ∧ nV (dvF ts ws (intAt ds ((0 : Nat) + Int.toNat i * 1))) = (0 : Nat) ∧ lnF ts (intAt ds ((0 : Nat) + Int.toNat i * 1)) = (0 : Int) ∧ True) ∧ (((0 : Int) != ceF ts (intAt ds ((0 : Nat) + Int.toNat i * 1)) (0 : Nat)) = true → False) ∧ (((0 : Int) != ceF ts (intAt ds ((0 : Nat) + Int.toNat i * 1)) (0 : Nat)) = false → (((0 : Int) != ceF ts (intAt ds ((0 : Nat) + Int.toNat i * 1)) (1 : Nat)) = true → False) ∧ (((0 : Int) != ceF ts (intAt ds ((0 : Nat) + Int.toNat i * 1)) (1 : Nat)) = false → (((0 : Int) != ceF ts (intAt ds ((0 : Nat) + Int.toNat i * 1)) (2 : Nat)) = true → False) ∧ (((0 : Int) != ceF ts (intAt ds ((0 : Nat) + Int.toNat i * 1)) (2 : Nat)) = false → (((0 : Int) != ceF ts (intAt ds ((0 : Nat) + Int.toNat i * 1)) (3 : Nat)) = true → False) ∧ (((0 : Int) != ceF ts (intAt ds ((0 : Nat) + Int.toNat i * 1)) (3 : Nat)) = false → (((0 : Int) != ceF ts (intAt ds ((0 : Nat) + Int.toNat i * 1)) (4 : Nat)) = true → False) ∧ (((0 : Int) != ceF ts (intAt ds ((0 : Nat) + Int.toNat i * 1)) (4 : Nat)) = false → (((0 : Int) != ceF ts (intAt ds ((0 : Nat) + Int.toNat i * 1)) (5 : Nat)) = true → False) ∧ (((0 : Int) != ceF ts (intAt ds ((0 : Nat) + Int.toNat i * 1)) (5 : Nat)) = false → (((0 : Int) != ceF ts (intAt ds ((0 : Nat) + Int.toNat i * 1)) (6 : Nat)) = true → False) ∧ (((0 : Int) != ceF ts (intAt ds ((0 : Nat) + Int.toNat i * 1)) (6 : Nat)) = false → (((0 : Int) != ceF ts (intAt ds ((0 : Nat) + Int.toNat i * 1)) (7 : Nat)) = true → False) ∧ (((0 : Int) != ceF ts (intAt ds ((0 : Nat) + Int.toNat i * 1)) (7 : Nat)) = false → Q (ari BinOp.add IntKind.i64 i (1 : Int)) n cs k ds ∧ CallKind.normal = CallKind.normal ∧ TodoOk (ren 0 [(0, 0), (1, 1), (2, 2), (3, 3)]) eS_d0 eS_d0 ∧ ari BinOp.add IntKind.i64 i (1 : Int) = ari BinOp.add IntKind.i64 i (1 : Int) ∧ n = n ∧ k = k ∧ (41 : TypeId) = (41 : TypeId) ∧ ts = ts ∧ (55 : TypeId) = (55 : TypeId) ∧ ws = ws ∧ (3 : TypeId) = (3 : TypeId) ∧ ds = ds ∧ (32 : TypeId) = (32 : TypeId) ∧ cs = cs ∧ True))))))))) ∧ ((((0 : Int) != quF ts (intAt ds ((0 : Nat) + Int.toNat i * 1))) == false) = false → False)) ∧ ((((0 : Int) != upF ts (intAt ds ((0 : Nat) + Int.toNat i * 1))) == false) = false → False)) ∧ (false = false → False)) ∧ (gdF ts (intAt ds ((0 : Nat) + Int.toNat i * 1)) = false → (false = true → (true = true → (true = true → (false = true → False) ∧ (false = false → (false = true → False) ∧ (false = false → (false = true → False) ∧ (false = false → (false = true → False) ∧ (false = false → (false = true → False) ∧ (false = false → (false = true → False) ∧ (false = false → (false = true → False) ∧ (false = false → (false = true → False) ∧ (false = false → (false = true → False) ∧ (false = false → Q (ari BinOp.add IntKind.i64 i (1 : Int)) n cs k ds ∧ CallKind.normal = CallKind.normal ∧ TodoOk (ren 0 [(0, 0), (1, 1), (2, 2), (3, 3)]) eS_d0 eS_d0 ∧ ari BinOp.add IntKind.i64 i (1 : Int) = ari BinOp.add IntKind.i64 i (1 : Int) ∧ n = n ∧ k = k ∧ (41 : TypeId) = (41 : TypeId) ∧ ts = ts ∧ (55 : TypeId) = (55 : TypeId) ∧ ws = ws ∧ (3 : TypeId) = (3 : TypeId) ∧ ds = ds ∧ (32 : TypeId) = (32 : TypeId) ∧ cs = cs ∧ True)))))))))) ∧ (true = false → False)) ∧ (true = false → False)) ∧ (false = false → False))))) ∧ (((IntKind.wrap IntKind.i64 (intAt cs ((0 : Nat) + Int.toNat i * 1)) != intAt ds ((0 : Nat) + Int.toNat i * 1)) == false) = false → False)) ∧ (decide (i < (↑n : Int)) = false → True)) := by kernel_rfl
end Go.Proofs.YtjjeahnbppmigaaDoor
/- Of TablePlays: the comparison of the two tables: contract. No condition. -/
namespace Go.Proofs.YtjjeahnbppmigaaDoor
set_option linter.unusedSectionVars false
variable [Gh]
set_option maxRecDepth 100000
set_option linter.unusedSimpArgs false
set_option linter.unusedVariables false
def Uq : Prop := ∀ g a b, GlP g a → GlP g b → a = b
theorem Good.uniq {P : Program} {A : SV → SMem → Prop} {base : Nat} {fs : List SFr} {m : SMem} (H : Uq → Good P A base fs m) : Good P A base fs m := by
  intro n0 F w0 ws w Rs R fr frs hf hR hX hs
  refine H (fun g a b ha hb => ?_) n0 F w0 ws w Rs R fr frs hf hR hX hs
  obtain ⟨_, _, c1, t1, f1, e1, s1, i1⟩ := hR.gl g a ha
  obtain ⟨_, _, c2, t2, f2, e2, s2, i2⟩ := hR.gl g b hb
  rw [e1] at e2
  cases e2
  apply List.ext_getElem?
  intro i
  by_cases h : i < a.length
  · rw [← i1 i h, ← i2 i (by omega)]
  · rw [List.getElem?_eq_none (by omega), List.getElem?_eq_none (by omega)]
theorem SlQ.uq (hu : Uq) {v : Value} {r1 r2 : Array Value} (h1 : SlQ v r1) (h2 : SlQ v r2) : r1 = r2 := by
  rcases h1 with ⟨rfl, rfl⟩ | ⟨b, off, n, c, cs, rfl, g1, _, _, _, rfl⟩
  · rcases h2 with ⟨_, rfl⟩ | ⟨b, off, n, c, cs, e, _⟩
    · rfl
    · cases e
  · rcases h2 with ⟨e, _⟩ | ⟨b', off', n', c', cs', e, g2, _, _, _, rfl⟩
    · cases e
    · cases e
      rw [hu _ _ _ g1 g2]
theorem sr_row (hu : Uq) {p d : Value} (h : SR p d) (hn : nV p ≠ 0) : rowK p = rowK d ∧ PrOk (rowK p) 0 (nV p) ∧ (rowK p).extract 0 (0 + nV p * 2) = rowK d := by
  obtain ⟨row, h1, h2⟩ := h
  have k1 := rowK_ok (v := p) ⟨row, h1⟩
  have e1 := k1.uq hu h1
  rcases h2 with ⟨a, c, rfl, rfl⟩ | h2
  · have := h1.pr.2
    exact absurd (show nV p = 0 by have : 0 = nV p * 2 := this; omega) hn
  · have k2 := rowK_ok (v := d) ⟨row, h2⟩
    have e2 := k2.uq hu h2
    have e : rowK p = rowK d := e1.trans e2.symm
    refine ⟨e, k1.pr.1, ?_⟩
    rw [← e, Nat.zero_add, ← k1.pr.2]
    exact Array.extract_size
theorem conS_ok (ts : Array Value) : ∀ g l m t, conS ts g l m = some t → Con E0 g l m t := by
  intro g l m t h
  unfold conS at h
  split at h
  · cases h; exact rall_con m
  · split at h
    · rename_i hb; cases h; exact same_row hb
    · cases h
  · cases h; exact same_nil
  · exact conA_ok ts _ _ _ _ h
theorem ESe_ok (ts : Array Value) : EnvOk (ESe ts) := EnvOk.with E0_ok _ _ (conS_ok ts)
omit [Gh] in
theorem u32s_at {l : List Int} {i : Nat} (hi : i < l.length) : (u32s l)[i]? = some (.int .u32 (l.getD i 0)) := by
  unfold u32s
  rw [List.getElem?_toArray, List.getElem?_map, List.getElem?_eq_getElem hi, List.getD_eq_getElem?_getD, List.getElem?_eq_getElem hi]
  rfl
section
variable {ts ws : Array Value}
omit [Gh] in
theorem wr_h {x : Int} (h : inH x) : IntKind.wrap .i64 x = x := i64_in' (by have := h.1; omega) (by have := h.2; omega)
theorem ce_h (hb : TbOk ts) {x : Int} (hg : gdF ts x = true) {k : Nat} (hk : k < 8) : IntKind.wrap .i64 (ceF ts x k) = ceF ts x k := wr_h ((hb.rg (sl x) (good_f hb hg).2.2.1).hc k hk)
theorem up_h (hb : TbOk ts) {x : Int} (hg : gdF ts x = true) : IntKind.wrap .i64 (upF ts x) = upF ts x := by
  refine wr_h ?_
  unfold upF
  rw [if_pos hg]
  cases gdF ts (upR ts x) with
  | true => rw [if_pos rfl]; exact (hb.rg (sl x) (good_f hb hg).2.2.1).hu
  | false => rw [if_neg (by decide)]; exact ⟨by decide, by decide⟩
theorem eS_ok (w : SW ts ws) (hb : TbOk ts) (hu : Uq) : ∀ k i, i + k = (lvT ts).length → Good Tryd.prog (retOk 0 [] (sB (.l true)) e0M) 0 (eS_F ts ws (i : Int) (lvT ts).length (u32s (lvT ts)) (lvT ts).length (i64s (lvT ts))) (eS_M ts ws (i : Int) (lvT ts).length (u32s (lvT ts)) (lvT ts).length (i64s (lvT ts))) := by
  have hs := hb.sz
  have hz := w.sz
  have hk : BkOk (ts.extract 0 64) := hb.bk
  intro k
  induction k with
  | zero =>
    intro i hi
    refine past_vc (ESe_ok ts) 1000 (es1 ts ws (i : Int) _ _ _ _ (fun _ _ _ _ _ => False)) ?_ (fun _ _ h => h) (fun fs m hb => eS_good (fun _ _ _ _ _ h => h.elim) hb)
    have d : decide ((i : Int) < ((lvT ts).length : Int)) = false := decide_eq_false (by omega)
    simp only [d, hs, hz, Bool.false_eq_true, false_implies, true_implies, and_true, true_and]
  | succ k ih =>
    intro i hi
    refine past_vc (ESe_ok ts) 1000 (es1 ts ws (i : Int) _ _ _ _ (fun i' n' cs' k' ds' => i' = ((i + 1 : Nat) : Int) ∧ n' = (lvT ts).length ∧ cs' = u32s (lvT ts) ∧ k' = (lvT ts).length ∧ ds' = i64s (lvT ts))) ?_ (fun _ _ h => h) (fun fs m hb => eS_good (fun _ _ _ _ _ ⟨e1, e2, e3, e4, e5⟩ => by rw [e1, e2, e3, e4, e5]; exact ih (i + 1) (by omega)) hb)
    have hi' : i < (lvT ts).length := by omega
    have d : decide ((i : Int) < ((lvT ts).length : Int)) = true := decide_eq_true (by omega)
    have y0 : (0 : Int) ≤ (i : Int) := by omega
    have y1 : (i : Int) < ((lvT ts).length : Int) := by omega
    have l32 := lv_len ts
    have ei : ari .add .i64 (i : Int) 1 = ((i + 1 : Nat) : Int) := by rw [ari_add, i64_in' (by omega) (by omega)]; omega
    have c1 := isI_of (u32s_at hi')
    have c2 := intAt_of (u32s_at hi')
    have c3 := isI_of (i64s_at hi')
    have c4 := intAt_of (i64s_at hi')
    have hm : (lvT ts).getD i 0 ∈ lvT ts := by rw [List.getD_eq_getElem?_getD, List.getElem?_eq_getElem hi']; exact List.getElem_mem hi'
    generalize (lvT ts).getD i 0 = x at c2 c4 hm
    have hg := (lv_mem hb).1 hm
    have hg' : goodB (ts.extract 0 64) x = true := hg
    have hx := (good_f hb hg).2.2.2.2.2.1
    have hx' : 0 ≤ x ∧ x < 4294967296 := hx
    have eW := wr_h hx
    have eU := up_h hb hg
    have k0 := ce_h hb hg (k := 0) (by decide)
    have k1 := ce_h hb hg (k := 1) (by decide)
    have k2 := ce_h hb hg (k := 2) (by decide)
    have k3 := ce_h hb hg (k := 3) (by decide)
    have k4 := ce_h hb hg (k := 4) (by decide)
    have k5 := ce_h hb hg (k := 5) (by decide)
    have k6 := ce_h hb hg (k := 6) (by decide)
    have k7 := ce_h hb hg (k := 7) (by decide)
    have sr := (w.sli hb hg).2
    have sx := sr.x
    have sn := sr.nv
    have h64 : (64 : Nat) ≤ 448 := by decide
    by_cases n0 : nV (slF ts x) = 0
    · have dn : decide (nV (slF ts x) = 0) = true := decide_eq_true n0
      have n1 : nV (dvF ts ws x) = 0 := by rw [← sn]; exact n0
      simp only [Int.toNat_natCast, Nat.mul_one, Nat.zero_add, d, y0, y1, ei, c1, c2, c3, c4, eW, eU, k0, k1, k2, k3, k4, k5, k6, k7, hg, hg', hx', hs, hz, h64, hk, w, hb, sx, dn, n1, bne_self_eq_false, beqF, beqT, decide_true, decide_false, Bool.not_true, Bool.not_false, true_implies, Bool.true_eq_false, Bool.false_eq_true, false_implies, and_true, true_and, eS_d0_ok]
    · have dn : decide (nV (slF ts x) = 0) = false := decide_eq_false n0
      obtain ⟨r1, r2, r3⟩ := sr_row hu sr n0
      have r3 : (rowK (slF ts x)).extract 0 (nV (slF ts x) * 2) = rowK (dvF ts ws x) := by rw [Nat.zero_add] at r3; exact r3
      have n1 : nV (dvF ts ws x) ≠ 0 := by rw [← sn]; exact n0
      rw [sn] at r2 r3
      simp only [Int.toNat_natCast, Nat.mul_one, Nat.zero_add, d, y0, y1, ei, c1, c2, c3, c4, eW, eU, k0, k1, k2, k3, k4, k5, k6, k7, hg, hg', hx', hs, hz, h64, hk, w, hb, sx, dn, n1, r2, r3, sn, n0, ne_eq, not_false_eq_true, bne_self_eq_false, beqF, beqT, decide_true, decide_false, Bool.not_true, Bool.not_false, true_implies, Bool.true_eq_false, Bool.false_eq_true, false_implies, and_true, true_and, eS_d0_ok]
theorem same_con (m : SMem) : Con E0 11 [tbS ts, wtS ws] m (needs [SW ts ws, TbOk ts] (.ret (sB (.l true)) m)) := by
  refine Con.pure E0_ok (by kernel_rfl : E0.fn 11 = some Tryd.f11) (by kernel_rfl : Tryd.f11.body = some (Tryd.f11.body.getD .skip)) (by kernel_rfl) (by kernel_rfl) fun hq => ?_
  have w : SW ts ws := hq _ (by simp)
  have hb : TbOk ts := hq _ (by simp)
  have hs := hb.sz
  have hz := w.sz
  have h64 : (64 : Nat) ≤ 448 := by decide
  have hk : BkOk (ts.extract 0 64) := hb.bk
  refine (Good.uniq fun hu => Good.ret [] (run_vc (ESe_ok ts) 1000 (es0 ts ws (fun i' n' cs' k' ds' => i' = ((0 : Nat) : Int) ∧ n' = (lvT ts).length ∧ cs' = u32s (lvT ts) ∧ k' = (lvT ts).length ∧ ds' = i64s (lvT ts)) (fun i => i = 0)) ?_ (fun s m h => h) fun fs m h => ?_)).mono fun _ _ h => h.1
  · have e : issued (ts.extract 0 64) = lvT ts := rfl
    cases c : decide ((lvT ts).length = 0) with
    | true => simp only [e, c, hs, hz, h64, hk, w, hb, true_implies, Bool.true_eq_false, Bool.false_eq_true, false_implies, and_true, true_and, eS_d0_ok, eZ_d0_ok]
    | false =>
      simp only [e, c, hs, hz, h64, hk, w, hb, bne_self_eq_false, true_implies, Bool.true_eq_false, Bool.false_eq_true, false_implies, and_true, true_and, eS_d0_ok, eZ_d0_ok]
      rfl
  · unfold eX at h
    split at h
    · exact eS_good (fun _ _ _ _ _ ⟨e1, e2, e3, e4, e5⟩ => by rw [e1, e2, e3, e4, e5]; exact eS_ok w hb hu _ 0 (Nat.zero_add _)) h
    · refine eZ_good (fun i e => ?_) h
      rw [e]
      refine past_vc (ESe_ok ts) 1000 (esZ ts ws 0) ⟨fun h => absurd h (by decide), fun _ => ?_⟩ (fun _ _ h => h) (fun _ _ h => h.elim)
      simp only [hs, hz, and_true, true_and]
end
end Go.Proofs.YtjjeahnbppmigaaDoor
/- Of the law: Great: its loop's states. No condition. -/
namespace Go.Proofs.YtjjeahnbppmigaaDoor
set_option linter.unusedSectionVars false
variable [Gh]
set_option linter.unusedVariables false
omit [Gh] in
noncomputable def acS (off n : Nat) : SV := .s (.c (.f (.slice 0 (.o off) (.o n) .any)))
omit [Gh] in
def conNo (_ : FuncId) (_ : List SV) (_ : SMem) : Option Tree := none
omit [Gh] in
noncomputable def EG : Env := ⟨Tryd.prog, fnOf, conNo, haltAt [5006]⟩
omit [Gh] in
noncomputable def gR_d0 : List SIt := sekF Tryd.f5 6
omit [Gh] in
noncomputable def gR_F (off : Nat) (num : Nat) (ds : Array Value) (ty : TypeId) (i : Int) : List SFr := [frOf 5 Tryd.f5 [(0, acS off num), (3, i64 (.o i))] gR_d0]
omit [Gh] in
noncomputable def gR_M (off : Nat) (num : Nat) (ds : Array Value) (ty : TypeId) (i : Int) : SMem := mkM 1 [(0, ⟨.raw ds, ty, false⟩)]
omit [Gh] in
noncomputable def gR_n (off : Nat) (num : Nat) (ds : Array Value) (ty : TypeId) (Q : Int → Prop) (fs : List SFr) (m : SMem) : Prop := (match frNth fs 0 with | some f0 => (match rdI f0 3 with | some i => Q i ∧ subOk 1 [] (gR_F off num ds ty i) (gR_M off num ds ty i) fs m | none => False) | none => False)
omit [Gh] in
noncomputable def gr1_t (off : Nat) (num : Nat) (ds : Array Value) (ty : TypeId) (i : Int) : Tree := stepT EG.go (run EG 1000) 1 (gR_F off num ds ty i) (gR_M off num ds ty i)
omit [Gh] in
noncomputable def gr1_x (off : Nat) (num : Nat) (ds : Array Value) (ty : TypeId) (i : Int) (QgR : Int → Prop) (fs : List SFr) (m : SMem) : Prop := gR_n off num ds ty QgR fs m
omit [Gh] in
noncomputable def gr0_t (off : Nat) (num : Nat) (ds : Array Value) (ty : TypeId) : Tree := run EG 1000 1 [callFr 5 Tryd.f5.ntmps [acS off num] (Tryd.f5.body.getD .skip)] (mkM 1 [(0, ⟨.raw ds, ty, false⟩)])
omit [Gh] in
noncomputable def gr0_x (off : Nat) (num : Nat) (ds : Array Value) (ty : TypeId) (QgR : Int → Prop) (fs : List SFr) (m : SMem) : Prop := gR_n off num ds ty QgR fs m
omit [Gh] in
theorem gR_d0_ok (r : Nat → Option Nat) : TodoOk r gR_d0 gR_d0 := TodoOk.it (by kernel_rfl)
theorem gR_good {A : SV → SMem → Prop} {off : Nat} {num : Nat} {ds : Array Value} {ty : TypeId} {Q : Int → Prop} {fs : List SFr} {m : SMem} (H : ∀ i, Q i → Good Tryd.prog A 1 (gR_F off num ds ty i) (gR_M off num ds ty i)) (hb : gR_n off num ds ty Q fs m) : Good Tryd.prog A 1 fs m := by
  unfold gR_n at hb
  split at hb
  rotate_left
  · exact hb.elim
  split at hb
  rotate_left
  · exact hb.elim
  exact Good.of_sub hb.2 (H _ hb.1)
theorem gr1_go {A : SV → SMem → Prop} {off : Nat} {num : Nat} {ds : Array Value} {ty : TypeId} {i : Int} {QgR : Int → Prop} {fs : List SFr} {m : SMem} (hgR : ∀ i', QgR i' → Good Tryd.prog A 1 (gR_F off num ds ty i') (gR_M off num ds ty i')) (hb : gr1_x off num ds ty i QgR fs m) : Good Tryd.prog A 1 fs m := by
  unfold gr1_x at hb
  exact gR_good hgR hb
theorem gr0_go {A : SV → SMem → Prop} {off : Nat} {num : Nat} {ds : Array Value} {ty : TypeId} {QgR : Int → Prop} {fs : List SFr} {m : SMem} (hgR : ∀ i', QgR i' → Good Tryd.prog A 1 (gR_F off num ds ty i') (gR_M off num ds ty i')) (hb : gr0_x off num ds ty QgR fs m) : Good Tryd.prog A 1 fs m := by
  unfold gr0_x at hb
  exact gR_good hgR hb
end Go.Proofs.YtjjeahnbppmigaaDoor
/- Of the law: Great: its loop's states. -/
namespace Go.Proofs.YtjjeahnbppmigaaDoor
set_option maxRecDepth 100000
theorem gs0 (off num : Nat) (ds : Array Value) (ty : TypeId) (b : Bool) (Q : Int → Prop) : (gr0_t off num ds ty).vc (isB b) (gr0_x off num ds ty Q) =
    ((decide ((↑num : Int) > (150 : Int)) = true → true = b) ∧ (decide ((↑num : Int) > (150 : Int)) = false → (decide ((0 : Int) < (↑num : Int)) = true → Q (0 : Int) ∧ CallKind.normal = CallKind.normal ∧ TodoOk (ren 1 []) gR_d0 gR_d0 ∧ off = off ∧ num = num ∧ (0 : Int) = (0 : Int) ∧ ty = ty ∧ ds = ds ∧ True) ∧ (decide ((0 : Int) < (↑num : Int)) = false → false = b))) := by kernel_rfl
theorem gs1 (off num : Nat) (ds : Array Value) (ty : TypeId) (i : Int) (b : Bool) (Q : Int → Prop) : (gr1_t off num ds ty i).vc (isB b) (gr1_x off num ds ty i Q) =
    ((((0 : Int) ≤ i ∧ i < (↑num : Int)) ∧ True) ∧ (IsOne ds (off + Int.toNat i * 15 + 5) ∧ True) ∧ (IsSl (valAt ds (off + Int.toNat i * 15 + 5)) ∧ True) ∧ (decide ((↑(slN (valAt ds (off + Int.toNat i * 15 + 5))) : Int) > (80 : Int)) = true → true = b) ∧ (decide ((↑(slN (valAt ds (off + Int.toNat i * 15 + 5))) : Int) > (80 : Int)) = false → (decide (ari BinOp.add IntKind.i64 i (1 : Int) < (↑num : Int)) = true → Q (ari BinOp.add IntKind.i64 i (1 : Int)) ∧ CallKind.normal = CallKind.normal ∧ TodoOk (ren 1 []) gR_d0 gR_d0 ∧ off = off ∧ num = num ∧ ari BinOp.add IntKind.i64 i (1 : Int) = ari BinOp.add IntKind.i64 i (1 : Int) ∧ ty = ty ∧ ds = ds ∧ True) ∧ (decide (ari BinOp.add IntKind.i64 i (1 : Int) < (↑num : Int)) = false → false = b))) := by kernel_rfl
theorem gse (ty : TypeId) (b : Bool) : (run EG 1000 0 [callFr 5 Tryd.f5.ntmps [.s (.c (.f .e0))] (Tryd.f5.body.getD .skip)] e0M).vc (isB b) (fun _ _ => False) =
    (false = b) := by kernel_rfl
end Go.Proofs.YtjjeahnbppmigaaDoor
/- Of the law: Great: its contract. No condition. -/
namespace Go.Proofs.YtjjeahnbppmigaaDoor
set_option linter.unusedSectionVars false
variable [Gh]
set_option maxRecDepth 100000
set_option linter.unusedVariables false
structure AcAt (ds : Array Value) (p : Nat) : Prop where
  d : IsInt .u8 ds p
  a : IsInt .u32 ds (p + 1)
  b : IsInt .u32 ds (p + 2)
  u : IsInt .i64 ds (p + 3)
  q : IsInt .i64 ds (p + 4)
  ro : IsOne ds (p + 5)
  rs : IsSl (valAt ds (p + 5))
  r : nV (valAt ds (p + 5)) ≤ 80 → SlX (valAt ds (p + 5))
  l : IsInt .i64 ds (p + 6)
  c : ∀ k, k < 8 → IsInt .i64 ds (p + 7 + k)
  ha : inH (intAt ds (p + 1))
  hb : inH (intAt ds (p + 2))
structure AcOk (ds : Array Value) (off n : Nat) : Prop where
  sz : off + n * 15 ≤ ds.size
  at' : ∀ i, i < n → AcAt ds (off + i * 15)
omit [Gh] in
theorem slN_eq (v : Value) : slN v = nV v := by cases v <;> rfl
omit [Gh] in
def grK (ds : Array Value) (off : Nat) : Nat → Nat → Bool
  | 0, _ => false
  | k + 1, i => decide (80 < nV (valAt ds (off + i * 15 + 5))) || grK ds off k (i + 1)
omit [Gh] in
def grB (ds : Array Value) (off n : Nat) : Bool := decide (150 < n) || grK ds off n 0
omit [Gh] in
theorem grK_no {ds : Array Value} {off : Nat} : ∀ {k i : Nat}, grK ds off k i = false → ∀ j, i ≤ j → j < i + k → nV (valAt ds (off + j * 15 + 5)) ≤ 80
  | 0, _, _, _, _, _ => by omega
  | k + 1, i, h, j, h1, h2 => by
    unfold grK at h
    rw [Bool.or_eq_false_iff] at h
    by_cases e : j = i
    · rw [e]; have := of_decide_eq_false h.1; omega
    · exact grK_no h.2 j (by omega) (by omega)
omit [Gh] in
theorem grB_no {ds : Array Value} {off n : Nat} (h : grB ds off n = false) : n ≤ 150 ∧ ∀ j, j < n → nV (valAt ds (off + j * 15 + 5)) ≤ 80 := by
  unfold grB at h
  rw [Bool.or_eq_false_iff] at h
  exact ⟨by have := of_decide_eq_false h.1; omega, fun j hj => grK_no h.2 j (by omega) (by omega)⟩
theorem conNo_ok : ∀ g l m t, conNo g l m = some t → Con E0 g l m t := by
  intro g l m t h
  cases h
theorem EG_ok : EnvOk EG := EnvOk.with E0_ok _ _ conNo_ok
theorem gR_ok {off num : Nat} {ds : Array Value} (ty : TypeId) (h : AcOk ds off num) (hn : num ≤ 150) : ∀ k i : Nat, i + (k + 1) = num → Good Tryd.prog (isB (grK ds off (k + 1) i)) 1 (gR_F off num ds ty (i : Int)) (gR_M off num ds ty (i : Int)) := by
  intro k
  induction k with
  | zero =>
    intro i hi
    refine past_vc EG_ok 1000 (gs1 off num ds ty i (grK ds off 1 i) (fun _ => False)) ?_ (fun _ _ h => h) (fun fs m hb => gr1_go (fun _ h => h.elim) hb)
    have ha := h.at' i (by omega)
    have hN : ari .add .i64 (i : Int) 1 = ((i + 1 : Nat) : Int) := by rw [ari_add, i64w (by omega)]; omega
    have h1 : (0 : Int) ≤ (i : Int) ∧ (i : Int) < (num : Int) := by omega
    have d2 : decide (((i + 1 : Nat) : Int) < (num : Int)) = false := decide_eq_false (by omega)
    have e1 : grK ds off 1 i = decide (80 < nV (valAt ds (off + i * 15 + 5))) := by unfold grK; unfold grK; rw [Bool.or_false]
    have e2 : decide (((nV (valAt ds (off + i * 15 + 5)) : Nat) : Int) > 80) = decide (80 < nV (valAt ds (off + i * 15 + 5))) := decide_eq_decide.2 (by omega)
    simp only [Int.toNat_natCast, hN, h1, ha.ro, ha.rs, d2, e1, e2, slN_eq, true_and, and_true, true_implies, false_implies, Bool.false_eq_true]
    cases decide (80 < nV (valAt ds (off + i * 15 + 5))) <;> simp
  | succ k ih =>
    intro i hi
    refine past_vc EG_ok 1000 (gs1 off num ds ty i (grK ds off (k + 2) i) (fun j => j = ((i + 1 : Nat) : Int) ∧ decide (80 < nV (valAt ds (off + i * 15 + 5))) = false)) ?_ (fun _ _ h => h) (fun fs m hb => gr1_go (fun j ⟨e, hf⟩ => by
      rw [e]
      have e1 : grK ds off (k + 2) i = grK ds off (k + 1) (i + 1) := by
        show (decide (80 < nV (valAt ds (off + i * 15 + 5))) || grK ds off (k + 1) (i + 1)) = _
        rw [hf, Bool.false_or]
      rw [e1]
      exact ih (i + 1) (by omega)) hb)
    have ha := h.at' i (by omega)
    have hN : ari .add .i64 (i : Int) 1 = ((i + 1 : Nat) : Int) := by rw [ari_add, i64w (by omega)]; omega
    have h1 : (0 : Int) ≤ (i : Int) ∧ (i : Int) < (num : Int) := by omega
    have d2 : decide (((i + 1 : Nat) : Int) < (num : Int)) = true := decide_eq_true (by omega)
    have e2 : decide (((nV (valAt ds (off + i * 15 + 5)) : Nat) : Int) > 80) = decide (80 < nV (valAt ds (off + i * 15 + 5))) := decide_eq_decide.2 (by omega)
    simp only [Int.toNat_natCast, hN, h1, ha.ro, ha.rs, d2, e2, slN_eq, true_and, and_true, true_implies, false_implies, Bool.true_eq_false, Bool.false_eq_true]
    refine ⟨fun hT => ?_, fun hF => ⟨hF, gR_d0_ok _⟩⟩
    show true = (decide (80 < nV (valAt ds (off + i * 15 + 5))) || _)
    rw [hT]; rfl
theorem great_con {m : SMem} {i : Nat} {off n : SN} {cap : SK} {ds : Array Value} {ty : TypeId} {wr : Bool} (hb : getB m.bl i = some ⟨.raw ds, ty, wr⟩) : Con E0 5 [.s (.c (.f (.slice i off n cap)))] m (.need [AcOk ds off.den n.den] (.ret (sB (.o (grB ds off.den n.den))) m)) := by
  refine Con.asked fun hq => ?_
  have ha := (hq _ (List.mem_singleton.2 rfl) : AcOk ds off.den n.den)
  have key : Con E0 5 [.s (.c (.f (.slice i off n cap)))] m (needs [] (.ret (sB (.o (grB ds off.den n.den))) m)) := by
    refine Con.readV E0_ok (l' := [acS off.den n.den]) (ms := mkM 1 [(0, ⟨.raw ds, ty, false⟩)]) (A := isB (grB ds off.den n.den)) (by kernel_rfl : E0.fn 5 = some Tryd.f5) (by kernel_rfl : Tryd.f5.body = some (Tryd.f5.body.getD .skip)) rfl (fun _ => i) (fun j b hj => ?_) (fun R vs hv => ?_) (fun _ => ?_) (fun s m' R R' v h hv => ?_)
    · have hj : getB (Tr.nil.set 0 (some ⟨.raw ds, ty, false⟩)) j = some b := hj
      rw [getB_set] at hj
      split at hj
      · rename_i e
        cases hj
        rw [e]
        exact ⟨Nat.zero_lt_one, rfl, _, hb, rfl, fun R cs h => h⟩
      · have hj : (Tr.nil : Tr SBlk).get j = some b := hj
        rw [Tr.get_nil] at hj
        cases hj
    · match vs, hv with
      | [u], hv =>
        obtain ⟨⟨gl, cp, e1, e2, e3, e4⟩, _⟩ := hv
        exact ⟨⟨gl, cp, by unfold pull; exact e1, e2, trivial, e4⟩, trivial⟩
    · generalize off.den = off at ha ⊢
      generalize n.den = n at ha ⊢
      refine run_vc EG_ok 1000 (gs0 off n ds ty (grB ds off n) (fun j => j = ((0 : Nat) : Int) ∧ 0 < n ∧ n ≤ 150)) ?_ (fun s m h => h) (fun fs m hb => gr0_go (fun j ⟨e, h0, h1⟩ => by
        rw [e]
        have e1 : grB ds off n = grK ds off (n - 1 + 1) 0 := by unfold grB; rw [decide_eq_false (by omega), Bool.false_or, show n - 1 + 1 = n by omega]
        rw [e1]
        exact gR_ok ty ha h1 (n - 1) 0 (by omega)) hb)
      refine ⟨fun h => ?_, fun h => ⟨fun h' => ⟨⟨rfl, ?_, ?_⟩, rfl, gR_d0_ok _, rfl, rfl, rfl, rfl, rfl, trivial⟩, fun h' => ?_⟩⟩
      · have h := of_decide_eq_true h
        unfold grB
        rw [decide_eq_true (by omega)]; rfl
      · have h' := of_decide_eq_true h'
        omega
      · have h := of_decide_eq_false h
        omega
      · have h' := of_decide_eq_false h'
        obtain rfl : n = 0 := by omega
        rfl
    · unfold isB at h
      split at h
      · have hv : v = .bool _ := hv
        rw [hv, h]; rfl
      · exact h.elim
  intro A hA
  exact key A hA
theorem great_none (m : SMem) : Con E0 5 [.s (.c (.f .e0))] m (.ret (sB (.o false)) m) := by
  have key : Con E0 5 [.s (.c (.f .e0))] m (needs [] (.ret (sB (.o false)) m)) := by
    refine Con.seeV E0_ok (l' := [.s (.c (.f .e0))]) (ms := fun _ => ⟨0, .nil, []⟩) (A := isB false) (by kernel_rfl : E0.fn 5 = some Tryd.f5) (by kernel_rfl : Tryd.f5.body = some (Tryd.f5.body.getD .skip)) (fun _ => Looks.flat fun R vs ha => ok_anys rfl ha) (fun _ ty => ?_) (fun s m' R R' v h hv => ?_)
    · exact run_vc EG_ok 1000 (gse 0 false) rfl (fun s m h => h) (fun _ _ h => h.elim)
    · unfold isB at h
      split at h
      · have hv : v = .bool _ := hv
        rw [hv, h]; rfl
      · exact h.elim
  intro A hA
  exact key A hA
end Go.Proofs.YtjjeahnbppmigaaDoor
/- Of tables: the closed test. No condition. -/
namespace Go.Proofs.YtjjeahnbppmigaaDoor
set_option linter.unusedSectionVars false
variable [Gh]
omit [Gh] in
set_option maxRecDepth 1000000 in
theorem wakes_true : (run E0 200000 0 [callFr 6 Tryd.f6.ntmps [] (Tryd.f6.body.getD .skip)] ⟨0, .nil, []⟩).allTrue = true := by kernel_rfl
omit [Gh] in
theorem wakes_fn : E0.fn 6 = some Tryd.f6 := by kernel_rfl
omit [Gh] in
theorem wakes_body : Tryd.f6.body = some (Tryd.f6.body.getD .skip) := by kernel_rfl
theorem wakes_con (m : SMem) : Con E0 6 [] m (needs [] (.ret (sB (.l true)) m)) :=
  Con.pure E0_ok wakes_fn wakes_body (by kernel_rfl) (by kernel_rfl) fun _ => good_true E0_ok wakes_true
end Go.Proofs.YtjjeahnbppmigaaDoor
/- Of TablePlays: a handle, as acts have it; the law's environment. No condition. -/
namespace Go.Proofs.YtjjeahnbppmigaaDoor
set_option linter.unusedSectionVars false
variable [Gh]
set_option maxRecDepth 100000
set_option linter.unusedSimpArgs false
set_option linter.unusedVariables false
omit [Gh] in
def nmA (ts : Array Value) (n : Int) : Int := if 1 ≤ n ∧ n ≤ 32 ∧ kindAt (bkB ts) (n - 1).toNat = 1 then nmF ts (n - 1).toNat else n
section
variable {ts ws : Array Value}
theorem nmA_in (hb : TbOk ts) {n : Int} (hn : inH n) : inH (nmA ts n) := by
  unfold nmA
  split
  · rename_i h
    have g : gdF ts (nmF ts (n - 1).toNat) = true := (goodB_iff hb.bk).2 ⟨(n - 1).toNat, by omega, h.2.2, rfl⟩
    exact (good_f hb g).2.2.2.2.2.1
  · exact hn
theorem nm_con (n : Int) (m : SMem) : Con E0 21 [wtS ws, u32 n] m (needs [SW ts ws, TbOk ts, inH n] (.ret (i64 (.o (nmA ts n))) m)) := by
  refine Con.pure E0_ok (by kernel_rfl : E0.fn 21 = some Tryd.f21) (by kernel_rfl : Tryd.f21.body = some (Tryd.f21.body.getD .skip)) (by kernel_rfl) (by kernel_rfl) fun hq => ?_
  have w : SW ts ws := hq _ (by simp)
  have hb : TbOk ts := hq _ (by simp)
  have hn : inH n := hq (inH n) (by simp)
  obtain ⟨n0, n1⟩ := hn
  have hz := w.sz
  have h64 : (64 : Nat) ≤ 448 := by decide
  have wb := w.wb hb
  have ew : IntKind.wrap .i64 n = n := i64_in' (by omega) (by omega)
  refine (Good.ret [] (run_vc (EAt_ok ts) 1000 (nm0 ts ws n (nmA ts n)) ?_ (fun s m h => h) fun _ _ h => h.elim)).mono fun _ _ h => h.1
  by_cases c : 1 ≤ n ∧ n ≤ 32
  · obtain ⟨c1, c2⟩ := c
    have d1 : decide (n ≥ 1) = true := decide_eq_true c1
    have d2 : decide (n ≤ 32) = true := decide_eq_true c2
    obtain ⟨i, rfl⟩ : ∃ i : Nat, n = (i : Int) + 1 := ⟨(n - 1).toNat, by omega⟩
    have hi : i < 32 := by omega
    have ei : ari .sub .u32 ((i : Int) + 1) 1 = (i : Int) := by
      show IntKind.u32.wrap _ = _
      rw [u32_in (by omega) (by omega)]; omega
    have ei2 : IntKind.wrap .i64 (i : Int) = (i : Int) := i64_in' (by omega) (by omega)
    have s1 := w.s i hi
    have y0 : (0 : Int) ≤ (i : Int) := by omega
    have y1 : (i : Int) < 32 := by omega
    have en : nmA ts ((i : Int) + 1) = if kindAt (bkB ts) i = 1 then nmF ts i else (i : Int) + 1 := by
      unfold nmA
      have e : ((i : Int) + 1 - 1).toNat = i := by omega
      rw [e]
      by_cases k : kindAt (bkB ts) i = 1
      · rw [if_pos k, if_pos ⟨c1, c2, k⟩]
      · rw [if_neg k, if_neg fun h => k h.2.2]
    by_cases k : kindAt (bkB ts) i = 1
    · rw [if_pos k] at en
      have d3 : (kindAt (bkB ts) i == 1) = true := beq_iff_eq.2 k
      have gg := w.gn hi
      simp only [d1, d2, d3, ei, ei2, ew, en, y0, y1, hz, h64, wb, gg, isI_of s1, intAt_of s1, Int.toNat_natCast, Nat.mul_one, beqT, beqF, true_implies, Bool.true_eq_false, Bool.false_eq_true, false_implies, and_true, true_and]
      rfl
    · rw [if_neg k] at en
      have d3 : (kindAt (bkB ts) i == 1) = false := beq_eq_false_iff_ne.2 k
      simp only [d1, d2, d3, ei, ei2, ew, en, y0, y1, hz, h64, wb, isI_of s1, intAt_of s1, Int.toNat_natCast, Nat.mul_one, beqT, beqF, true_implies, Bool.true_eq_false, Bool.false_eq_true, false_implies, and_true, true_and]
  · have en : nmA ts n = n := by unfold nmA; rw [if_neg fun h => c ⟨h.1, h.2.1⟩]
    by_cases c1 : 1 ≤ n
    · have d1 : decide (n ≥ 1) = true := decide_eq_true c1
      have d2 : decide (n ≤ 32) = false := decide_eq_false fun h => c ⟨c1, h⟩
      simp only [d1, d2, ew, en, beqT, beqF, true_implies, Bool.true_eq_false, Bool.false_eq_true, false_implies, and_true, true_and]
    · have d1 : decide (n ≥ 1) = false := decide_eq_false c1
      simp only [d1, ew, en, beqT, beqF, true_implies, Bool.true_eq_false, Bool.false_eq_true, false_implies, and_true, true_and]
end
noncomputable def conW (ts : Array Value) (g : FuncId) (l : List SV) (m : SMem) : Option Tree := match g, l with
  | 5, [.s (.c (.f (.slice i off n _)))] => (match getB m.bl i with | some ⟨.raw ds, _, _⟩ => some (.need [AcOk ds off.den n.den] (.ret (sB (.o (grB ds off.den n.den))) m)) | _ => none)
  | 5, [.s (.c (.f .e0))] => some (.ret (sB (.o false)) m)
  | 6, [] => some (.ret (sB (.l true)) m)
  | 17, [.s (.agg (.op ts)), .s (.c (.f (.int .u32 h))), .s (.c (.f (.int .u32 u)))] => some (.need [FIn ts, inH h.den, inH u.den] (.ret (rgS (raT ts h.den u.den) (raE ts h.den u.den)) m))
  | 7, [.s (.c (.f .e0))] => some (.ret (tbS (agdT #[] 0 0)) m)
  | 7, [.s (.c (.f (.slice i o k _)))] => (match getB m.bl i with | some ⟨.raw cs, _, _⟩ => some (.need [GnIn cs o.den k.den] (.ret (tbS (agdT cs o.den k.den)) m)) | _ => none)
  | 21, [.s (.agg (.op ws)), .s (.c (.f (.int .u32 n)))] => some (.need [SW ts ws, TbOk ts, inH n.den] (.ret (i64 (.o (nmA ts n.den))) m))
  | 11, [.s (.agg (.op us)), .s (.agg (.op ws))] => some (.need [SW us ws, TbOk us] (.ret (sB (.l true)) m))
  | 22, [.s (.agg (.op ws)), .s (.c (.f (.int .i64 h)))] => some (.need [WT ws] (.ret (weS (drW ws h.den) (drE ws h.den)) m))
  | 24, [.s (.agg (.op ws)), .s (.c (.f (.int .i64 h))), .s (.c (.f (.int .i64 u)))] => some (.need [SW ts ws, FIn ts] (.ret (weS (raW ts ws h.den u.den) (raE ts h.den u.den)) m))
  | 25, [.s (.agg (.op ws)), .s (.c (.f (.int .i64 u))), .s (.c (.f (.int .i64 q)))] => some (.need [SW ts ws, TbOk ts] (.ret (.tup [.agg (.op (nwW ts ws u.den q.den)), .c (.f (.int .i64 (.o (newI ts u.den q.den)))), .c (.f (.int .i64 (.o (newE ts u.den q.den))))]) m))
  | 23, [.s (.agg (.op ws)), .s (.c (.f (.int .i64 h))), .s (.agg (.ls [.f (.int .i64 u), .f (.int .i64 q), .f (.opq v), .f (.int .i64 l), .f (.int .i64 c0), .f (.int .i64 c1), .f (.int .i64 c2), .f (.int .i64 c3), .f (.int .i64 c4), .f (.int .i64 c5), .f (.int .i64 c6), .f (.int .i64 c7)]))] => some (.need [SW ts ws, TbOk ts, SlX v] (.ret (weS (sdW ts ws h.den q.den v l.den c0.den c1.den c2.den c3.den c4.den c5.den c6.den c7.den) (setE ts h.den q.den (mayE (rowK v) 0 (nV v) l.den))) m))
  | g, l => conA ts g l m
theorem conW_ok (ts : Array Value) : ∀ g l m t, conW ts g l m = some t → Con E0 g l m t := by
  intro g l m t h
  unfold conW at h
  split at h
  · split at h
    · rename_i hb; cases h; exact great_con hb
    · cases h
  · cases h; exact great_none m
  · cases h; exact wakes_con m
  · rename_i us x u; cases h
    refine Con.asked fun hq => Con.args (l' := [tbS us, u32 x.den, u32 u.den]) (fun R vs ha => by
      match vs, ha with
      | [v, w, z], ha => exact ⟨ha.1, ha.2.1, ha.2.2.1, trivial⟩) ?_
    intro A hs
    exact raise_con x.den u.den m A ⟨fun p hp => hq p hp, hs⟩
  · cases h; exact agedT_none m
  · split at h
    · rename_i hb; cases h; exact agedT_con hb
    · cases h
  · rename_i ws n; cases h
    refine Con.asked fun hq => Con.args (l' := [wtS ws, u32 n.den]) (fun R vs ha => by
      match vs, ha with
      | [v, w], ha => exact ⟨ha.1, ha.2.1, trivial⟩) ?_
    intro A hs
    exact nm_con n.den m A ⟨fun p hp => hq p hp, hs⟩
  · cases h; exact same_con m
  · rename_i ws x; cases h
    refine Con.asked fun hq => Con.args (l' := [wtS ws, i64 (.o x.den)]) (fun R vs ha => by
      match vs, ha with
      | [v, w], ha => exact ⟨ha.1, ha.2.1, trivial⟩) ?_
    intro A hs
    exact rdrop_con x.den m A ⟨fun p hp => hq p hp, hs⟩
  · rename_i ws x u; cases h
    refine Con.asked fun hq => Con.args (l' := [wtS ws, i64 (.o x.den), i64 (.o u.den)]) (fun R vs ha => by
      match vs, ha with
      | [v, w, z], ha => exact ⟨ha.1, ha.2.1, ha.2.2.1, trivial⟩) ?_
    intro A hs
    exact rraise_con x.den u.den m A ⟨fun p hp => hq p hp, hs⟩
  · rename_i ws x u; cases h
    refine Con.asked fun hq => Con.args (l' := [wtS ws, i64 (.o x.den), i64 (.o u.den)]) (fun R vs ha => by
      match vs, ha with
      | [v, w, z], ha => exact ⟨ha.1, ha.2.1, ha.2.2.1, trivial⟩) ?_
    intro A hs
    exact rnew_con x.den u.den m A ⟨fun p hp => hq p hp, hs⟩
  · rename_i ws x u q v l c0 c1 c2 c3 c4 c5 c6 c7; cases h
    refine Con.asked fun hq => Con.args (l' := [wtS ws, i64 (.o x.den), rgV (rgD u.den q.den (opC v) l.den c0.den c1.den c2.den c3.den c4.den c5.den c6.den c7.den)]) (fun R vs ha => by
      match vs, ha with
      | [v, w, z], ha =>
        obtain ⟨k1, k2, ⟨ds, e, hd⟩, _⟩ := ha
        refine ⟨k1, k2, ⟨ds, e, ?_⟩, trivial⟩
        change All2 (SC.ok R) _ ds.toList at hd
        show All2 (SC.ok R) _ ds.toList
        generalize ds.toList = T at hd ⊢
        match T, hd with
        | [_, _, _, _, _, _, _, _, _, _, _, _], hd => exact hd) ?_
    intro A hs
    exact rset_con x.den q.den v l.den c0.den c1.den c2.den c3.den c4.den c5.den c6.den c7.den m A ⟨fun p hp => hq p hp, hs⟩
  · exact conA_ok ts _ _ _ _ h
end Go.Proofs.YtjjeahnbppmigaaDoor
/- Of TablePlays: the law's states. No condition. -/
namespace Go.Proofs.YtjjeahnbppmigaaDoor
set_option linter.unusedSectionVars false
variable [Gh]
set_option linter.unusedVariables false
noncomputable section
omit [Gh] in
def acC (ds : Array Value) (p : Nat) : SA := .ls [.f (.int .u8 (.o (intAt ds p))), .f (.int .u32 (.o (intAt ds (p + 1)))), .f (.int .u32 (.o (intAt ds (p + 2)))), .f (.int .i64 (.o (intAt ds (p + 3)))), .f (.int .i64 (.o (intAt ds (p + 4)))), .f (.opq (valAt ds (p + 5))), .f (.int .i64 (.o (intAt ds (p + 6)))), .f (.int .i64 (.o (intAt ds (p + 7)))), .f (.int .i64 (.o (intAt ds (p + 8)))), .f (.int .i64 (.o (intAt ds (p + 9)))), .f (.int .i64 (.o (intAt ds (p + 10)))), .f (.int .i64 (.o (intAt ds (p + 11)))), .f (.int .i64 (.o (intAt ds (p + 12)))), .f (.int .i64 (.o (intAt ds (p + 13)))), .f (.int .i64 (.o (intAt ds (p + 14))))]
omit [Gh] in
def rdQ (m : SMem) (id : Nat) : Option (Array Value) := match getB m.bl id with | some ⟨.patch cs _ _, _, _⟩ => some cs | _ => none
omit [Gh] in
def rdQo (m : SMem) (id : Nat) : Option Nat := match getB m.bl id with | some ⟨.patch _ o _, _, _⟩ => some o | _ => none
omit [Gh] in
def rdQi (m : SMem) (id : Nat) : Option Nat := match getB m.bl id with | some ⟨.patch _ _ (.slice i _ _ _), _, _⟩ => some i | _ => none
omit [Gh] in
def rdQn (m : SMem) (id : Nat) : Option Nat := match getB m.bl id with | some ⟨.patch _ _ (.slice _ _ n _), _, _⟩ => some n.den | _ => none
omit [Gh] in
def aC (ds : Array Value) (off : Nat) (i : Int) (k : Nat) : Int := intAt ds (off + i.toNat * 15 + k)
omit [Gh] in
def aV (ds : Array Value) (off : Nat) (i : Int) : Value := valAt ds (off + i.toNat * 15 + 5)
omit [Gh] in
def an32 (x : Int) : Int := ari .and .i64 x 4294967295
omit [Gh] in
def nA (ts ds : Array Value) (off : Nat) (i : Int) (k : Nat) : Int := nmA ts (aC ds off i k)
omit [Gh] in
def nW (ts ds : Array Value) (off : Nat) (i : Int) (k : Nat) : Int := IntKind.u32.wrap (nA ts ds off i k)
omit [Gh] in
def sNl (ts ds : Array Value) (off : Nat) (i : Int) : Array Value := setNl ts (nW ts ds off i 1) (aC ds off i 4) (aC ds off i 6) (wu (an32 (aC ds off i 7))) (wu (an32 (aC ds off i 8))) (wu (an32 (aC ds off i 9))) (wu (an32 (aC ds off i 10))) (wu (an32 (aC ds off i 11))) (wu (an32 (aC ds off i 12))) (wu (an32 (aC ds off i 13))) (wu (an32 (aC ds off i 14)))
omit [Gh] in
def sP0 (ts ds : Array Value) (off : Nat) (i : Int) : Array Value := setP ts (nW ts ds off i 1) (aC ds off i 4) (Value.slice none 0 0) (aC ds off i 6) (wu (an32 (aC ds off i 7))) (wu (an32 (aC ds off i 8))) (wu (an32 (aC ds off i 9))) (wu (an32 (aC ds off i 10))) (wu (an32 (aC ds off i 11))) (wu (an32 (aC ds off i 12))) (wu (an32 (aC ds off i 13))) (wu (an32 (aC ds off i 14)))
noncomputable def sDW (ts ws ds : Array Value) (off : Nat) (i : Int) : Array Value := sdW ts ws (nA ts ds off i 1) (aC ds off i 4) (aV ds off i) (aC ds off i 6) (an32 (aC ds off i 7)) (an32 (aC ds off i 8)) (an32 (aC ds off i 9)) (an32 (aC ds off i 10)) (an32 (aC ds off i 11)) (an32 (aC ds off i 12)) (an32 (aC ds off i 13)) (an32 (aC ds off i 14))
noncomputable def mA (ds : Array Value) (off : Nat) (i : Int) : Bool := mayE (rowK (aV ds off i)) 0 (nV (aV ds off i)) (aC ds off i 6)
omit [Gh] in
noncomputable def eW (ts ds : Array Value) (off : Nat) (i : Int) (b : Bool) : Int := setE ts (nW ts ds off i 1) (aC ds off i 4) b
omit [Gh] in
noncomputable def eA (ts ds : Array Value) (off : Nat) (i : Int) (b : Bool) : Int := setE ts (nA ts ds off i 1) (aC ds off i 4) b
end
noncomputable def EW (ts : Array Value) : Env := ⟨Tryd.prog, fnOf, conW ts, haltAt [3 * 1000 + 6, 3 * 1000 + 12]⟩
noncomputable def EWz (ts : Array Value) : Env := ⟨Tryd.prog, fnOf, conW ts, haltAt []⟩
omit [Gh] in
noncomputable def wA_d0 : List SIt := sekF Tryd.f3 6
omit [Gh] in
noncomputable def wA_F (off : Nat) (num : Nat) (ds : Array Value) (ty : TypeId) (ask : Int) (i : Int) (ts : Array Value) (ws : Array Value) (ks : Array Value) (vs : Array Value) : List SFr := [frOf 3 Tryd.f3 [(1, acS off num), (2, .s (.c (.f (.int .u32 (.o ask))))), (7, ptr 2 (.l 0)), (8, ptr 3 (.l 0)), (9, ptr 4 (.l 0)), (10, ptr 5 (.l 0)), (11, i64 (.o i))] wA_d0]
omit [Gh] in
noncomputable def wA_M (off : Nat) (num : Nat) (ds : Array Value) (ty : TypeId) (ask : Int) (i : Int) (ts : Array Value) (ws : Array Value) (ks : Array Value) (vs : Array Value) : SMem := mkM 6 [(0, ⟨.raw ds, ty, false⟩), (2, ⟨.op ts, 41, true⟩), (3, ⟨.op ws, 55, true⟩), (4, ⟨.op ks, 41, true⟩), (5, ⟨.op vs, 55, true⟩)]
omit [Gh] in
noncomputable def wA_n (off : Nat) (num : Nat) (ds : Array Value) (ty : TypeId) (ask : Int) (Q : Int → Array Value → Array Value → Array Value → Array Value → Prop) (fs : List SFr) (m : SMem) : Prop := (match frNth fs 0 with | some f0 => (match rdI f0 11 with | some i => (match rdP f0 7 with | some p2 => (match rdP f0 8 with | some p3 => (match rdP f0 9 with | some p4 => (match rdP f0 10 with | some p5 => (match rdA m p3 with | some ws => (match rdA m p4 with | some ks => (match rdA m p5 with | some vs => (match rdA m p2 with | some ts => Q i ts ws ks vs ∧ subOk 2 [(2, p2), (3, p3), (4, p4), (5, p5)] (wA_F off num ds ty ask i ts ws ks vs) (wA_M off num ds ty ask i ts ws ks vs) fs m | none => False) | none => False) | none => False) | none => False) | none => False) | none => False) | none => False) | none => False) | none => False) | none => False)
omit [Gh] in
noncomputable def wB_d0 : List SIt := sekF Tryd.f3 12
omit [Gh] in
noncomputable def wB_F (off : Nat) (num : Nat) (ds : Array Value) (ty : TypeId) (ask : Int) (i : Int) (ts : Array Value) (ws : Array Value) (ks : Array Value) (vs : Array Value) : List SFr := [frOf 3 Tryd.f3 [(1, acS off num), (2, .s (.c (.f (.int .u32 (.o ask))))), (7, ptr 2 (.l 0)), (8, ptr 3 (.l 0)), (9, ptr 4 (.l 0)), (10, ptr 5 (.l 0)), (11, i64 (.o i))] wB_d0]
omit [Gh] in
noncomputable def wB_M (off : Nat) (num : Nat) (ds : Array Value) (ty : TypeId) (ask : Int) (i : Int) (ts : Array Value) (ws : Array Value) (ks : Array Value) (vs : Array Value) : SMem := mkM 6 [(0, ⟨.raw ds, ty, false⟩), (2, ⟨.op ts, 41, true⟩), (3, ⟨.op ws, 55, true⟩), (4, ⟨.op ks, 41, true⟩), (5, ⟨.op vs, 55, true⟩)]
omit [Gh] in
noncomputable def wB_n (off : Nat) (num : Nat) (ds : Array Value) (ty : TypeId) (ask : Int) (Q : Int → Array Value → Array Value → Array Value → Array Value → Prop) (fs : List SFr) (m : SMem) : Prop := (match frNth fs 0 with | some f0 => (match rdI f0 11 with | some i => (match rdP f0 7 with | some p2 => (match rdP f0 8 with | some p3 => (match rdP f0 9 with | some p4 => (match rdP f0 10 with | some p5 => (match rdA m p3 with | some ws => (match rdA m p4 with | some ks => (match rdA m p5 with | some vs => (match rdA m p2 with | some ts => Q i ts ws ks vs ∧ subOk 2 [(2, p2), (3, p3), (4, p4), (5, p5)] (wB_F off num ds ty ask i ts ws ks vs) (wB_M off num ds ty ask i ts ws ks vs) fs m | none => False) | none => False) | none => False) | none => False) | none => False) | none => False) | none => False) | none => False) | none => False) | none => False)
omit [Gh] in
noncomputable def wP_d0 : List SIt := sekF Tryd.f3 12
omit [Gh] in
noncomputable def wP_F (off : Nat) (num : Nat) (ds : Array Value) (ty : TypeId) (ask : Int) (i : Int) (us : Array Value) (o : Nat) (n : Nat) (cs : Array Value) (ws : Array Value) (ks : Array Value) (vs : Array Value) : List SFr := [frOf 3 Tryd.f3 [(1, acS off num), (2, .s (.c (.f (.int .u32 (.o ask))))), (7, ptr 2 (.l 0)), (8, ptr 3 (.l 0)), (9, ptr 4 (.l 0)), (10, ptr 5 (.l 0)), (11, i64 (.o i))] wP_d0]
omit [Gh] in
noncomputable def wP_M (off : Nat) (num : Nat) (ds : Array Value) (ty : TypeId) (ask : Int) (i : Int) (us : Array Value) (o : Nat) (n : Nat) (cs : Array Value) (ws : Array Value) (ks : Array Value) (vs : Array Value) : SMem := mkM 7 [(0, ⟨.raw ds, ty, false⟩), (2, ⟨.patch us o (.slice 6 (.l 0) (.o n) (.full 2)), 41, true⟩), (3, ⟨.op ws, 55, true⟩), (4, ⟨.op ks, 41, true⟩), (5, ⟨.op vs, 55, true⟩), (6, ⟨.pop cs, 89, true⟩)]
omit [Gh] in
noncomputable def wP_n (off : Nat) (num : Nat) (ds : Array Value) (ty : TypeId) (ask : Int) (Q : Int → Array Value → Nat → Nat → Array Value → Array Value → Array Value → Array Value → Prop) (fs : List SFr) (m : SMem) : Prop := (match frNth fs 0 with | some f0 => (match rdI f0 11 with | some i => (match rdP f0 7 with | some p2 => (match rdP f0 8 with | some p3 => (match rdP f0 9 with | some p4 => (match rdP f0 10 with | some p5 => (match rdA m p3 with | some ws => (match rdA m p4 with | some ks => (match rdA m p5 with | some vs => (match rdQ m p2 with | some us => (match rdQo m p2 with | some o => (match rdQi m p2 with | some p6 => (match rdQn m p2 with | some n => (match rdA m p6 with | some cs => Q i us o n cs ws ks vs ∧ subOk 2 [(2, p2), (3, p3), (4, p4), (5, p5), (6, p6)] (wP_F off num ds ty ask i us o n cs ws ks vs) (wP_M off num ds ty ask i us o n cs ws ks vs) fs m | none => False) | none => False) | none => False) | none => False) | none => False) | none => False) | none => False) | none => False) | none => False) | none => False) | none => False) | none => False) | none => False) | none => False)
omit [Gh] in
noncomputable def wX (off num : Nat) (ds : Array Value) (ty : TypeId) (ask : Int) (QB : Int → Array Value → Array Value → Array Value → Array Value → Prop) (QP : Int → Array Value → Nat → Nat → Array Value → Array Value → Array Value → Array Value → Prop) (fs : List SFr) (m : SMem) : Prop := match (match frNth fs 0 with | some f0 => (match rdP f0 7 with | some p => rdQ m p | none => none) | none => none) with | some _ => wP_n off num ds ty ask QP fs m | none => wB_n off num ds ty ask QB fs m
omit [Gh] in
theorem wA_d0_ok (r : Nat → Option Nat) : TodoOk r wA_d0 wA_d0 := TodoOk.it (by kernel_rfl)
omit [Gh] in
theorem wB_d0_ok (r : Nat → Option Nat) : TodoOk r wB_d0 wB_d0 := TodoOk.it (by kernel_rfl)
omit [Gh] in
theorem wP_d0_ok (r : Nat → Option Nat) : TodoOk r wP_d0 wP_d0 := TodoOk.it (by kernel_rfl)
theorem wA_good {A : SV → SMem → Prop} {off : Nat} {num : Nat} {ds : Array Value} {ty : TypeId} {ask : Int} {Q : Int → Array Value → Array Value → Array Value → Array Value → Prop} {fs : List SFr} {m : SMem} (H : ∀ i ts ws ks vs, Q i ts ws ks vs → Good Tryd.prog A 2 (wA_F off num ds ty ask i ts ws ks vs) (wA_M off num ds ty ask i ts ws ks vs)) (hb : wA_n off num ds ty ask Q fs m) : Good Tryd.prog A 2 fs m := by
  unfold wA_n at hb
  split at hb
  rotate_left
  · exact hb.elim
  split at hb
  rotate_left
  · exact hb.elim
  split at hb
  rotate_left
  · exact hb.elim
  split at hb
  rotate_left
  · exact hb.elim
  split at hb
  rotate_left
  · exact hb.elim
  split at hb
  rotate_left
  · exact hb.elim
  split at hb
  rotate_left
  · exact hb.elim
  split at hb
  rotate_left
  · exact hb.elim
  split at hb
  rotate_left
  · exact hb.elim
  split at hb
  rotate_left
  · exact hb.elim
  exact Good.of_sub hb.2 (H _ _ _ _ _ hb.1)
theorem wB_good {A : SV → SMem → Prop} {off : Nat} {num : Nat} {ds : Array Value} {ty : TypeId} {ask : Int} {Q : Int → Array Value → Array Value → Array Value → Array Value → Prop} {fs : List SFr} {m : SMem} (H : ∀ i ts ws ks vs, Q i ts ws ks vs → Good Tryd.prog A 2 (wB_F off num ds ty ask i ts ws ks vs) (wB_M off num ds ty ask i ts ws ks vs)) (hb : wB_n off num ds ty ask Q fs m) : Good Tryd.prog A 2 fs m := by
  unfold wB_n at hb
  split at hb
  rotate_left
  · exact hb.elim
  split at hb
  rotate_left
  · exact hb.elim
  split at hb
  rotate_left
  · exact hb.elim
  split at hb
  rotate_left
  · exact hb.elim
  split at hb
  rotate_left
  · exact hb.elim
  split at hb
  rotate_left
  · exact hb.elim
  split at hb
  rotate_left
  · exact hb.elim
  split at hb
  rotate_left
  · exact hb.elim
  split at hb
  rotate_left
  · exact hb.elim
  split at hb
  rotate_left
  · exact hb.elim
  exact Good.of_sub hb.2 (H _ _ _ _ _ hb.1)
theorem wP_good {A : SV → SMem → Prop} {off : Nat} {num : Nat} {ds : Array Value} {ty : TypeId} {ask : Int} {Q : Int → Array Value → Nat → Nat → Array Value → Array Value → Array Value → Array Value → Prop} {fs : List SFr} {m : SMem} (H : ∀ i us o n cs ws ks vs, Q i us o n cs ws ks vs → Good Tryd.prog A 2 (wP_F off num ds ty ask i us o n cs ws ks vs) (wP_M off num ds ty ask i us o n cs ws ks vs)) (hb : wP_n off num ds ty ask Q fs m) : Good Tryd.prog A 2 fs m := by
  unfold wP_n at hb
  split at hb
  rotate_left
  · exact hb.elim
  split at hb
  rotate_left
  · exact hb.elim
  split at hb
  rotate_left
  · exact hb.elim
  split at hb
  rotate_left
  · exact hb.elim
  split at hb
  rotate_left
  · exact hb.elim
  split at hb
  rotate_left
  · exact hb.elim
  split at hb
  rotate_left
  · exact hb.elim
  split at hb
  rotate_left
  · exact hb.elim
  split at hb
  rotate_left
  · exact hb.elim
  split at hb
  rotate_left
  · exact hb.elim
  split at hb
  rotate_left
  · exact hb.elim
  split at hb
  rotate_left
  · exact hb.elim
  split at hb
  rotate_left
  · exact hb.elim
  split at hb
  rotate_left
  · exact hb.elim
  exact Good.of_sub hb.2 (H _ _ _ _ _ _ _ _ hb.1)
end Go.Proofs.YtjjeahnbppmigaaDoor
/- Of TablePlays: the law's states. -/
namespace Go.Proofs.YtjjeahnbppmigaaDoor
set_option linter.unusedSectionVars false
variable [Gh]
set_option maxRecDepth 100000
theorem wa (off num : Nat) (ds : Array Value) (ty : TypeId) (ask i : Int) (ts ws ks vs : Array Value) (QB : Int → Array Value → Array Value → Array Value → Array Value → Prop) (QP : Int → Array Value → Nat → Nat → Array Value → Array Value → Array Value → Array Value → Prop) : (stepT (EW ts).go (run (EW ts) 2000) 2 (wA_F off num ds ty ask i ts ws ks vs) (wA_M off num ds ty ask i ts ws ks vs)).vc (isB true) (wX off num ds ty ask QB QP) =
    ((decide (i < (↑num : Int)) = true → (Array.size ts = (448 : Nat) ∧ True) ∧ (Array.size ws = (448 : Nat) ∧ True) ∧ (((0 : Int) ≤ i ∧ i < (↑num : Int)) ∧ True) ∧ (IsInt IntKind.u8 ds (off + Int.toNat i * 15) ∧ IsInt IntKind.u32 ds (off + Int.toNat i * 15 + 1) ∧ IsInt IntKind.u32 ds (off + Int.toNat i * 15 + 2) ∧ IsInt IntKind.i64 ds (off + Int.toNat i * 15 + 3) ∧ IsInt IntKind.i64 ds (off + Int.toNat i * 15 + 4) ∧ IsOne ds (off + Int.toNat i * 15 + 5) ∧ IsInt IntKind.i64 ds (off + Int.toNat i * 15 + 6) ∧ IsInt IntKind.i64 ds (off + Int.toNat i * 15 + 7) ∧ IsInt IntKind.i64 ds (off + Int.toNat i * 15 + 8) ∧ IsInt IntKind.i64 ds (off + Int.toNat i * 15 + 9) ∧ IsInt IntKind.i64 ds (off + Int.toNat i * 15 + 10) ∧ IsInt IntKind.i64 ds (off + Int.toNat i * 15 + 11) ∧ IsInt IntKind.i64 ds (off + Int.toNat i * 15 + 12) ∧ IsInt IntKind.i64 ds (off + Int.toNat i * 15 + 13) ∧ IsInt IntKind.i64 ds (off + Int.toNat i * 15 + 14) ∧ True) ∧ (Array.size ws = (448 : Nat) ∧ True) ∧ (SW ts ws ∧ TbOk ts ∧ ((0 : Int) ≤ aC ds off i 1 ∧ aC ds off i 1 < (4294967296 : Int)) ∧ True) ∧ (Array.size ws = (448 : Nat) ∧ True) ∧ (SW ts ws ∧ TbOk ts ∧ ((0 : Int) ≤ aC ds off i 2 ∧ aC ds off i 2 < (4294967296 : Int)) ∧ True) ∧ ((intAt ds (off + Int.toNat i * 15) == (0 : Int)) = true → (Array.size ts = (448 : Nat) ∧ True) ∧ (TbOk ts ∧ ((0 : Int) ≤ nW ts ds off i 1 ∧ nW ts ds off i 1 < (4294967296 : Int)) ∧ True) ∧ (Array.size (dropT ts (nW ts ds off i 1)) = (448 : Nat) ∧ Array.size (dropT ts (nW ts ds off i 1)) = Array.size ts ∧ True) ∧ (Array.size ws = (448 : Nat) ∧ True) ∧ (WT ws ∧ True) ∧ (Array.size (drW ws (nA ts ds off i 1)) = (448 : Nat) ∧ Array.size (drW ws (nA ts ds off i 1)) = Array.size ws ∧ True) ∧ (Array.size (dropT ts (nW ts ds off i 1)) = (448 : Nat) ∧ True) ∧ (Array.size (drW ws (nA ts ds off i 1)) = (448 : Nat) ∧ True) ∧ (((getX5 ts (nW ts ds off i 1) == drE ws (nA ts ds off i 1)) == true) = true → (Array.size (dropT ts (nW ts ds off i 1)) = (448 : Nat) ∧ Array.size (dropT ts (nW ts ds off i 1)) = (448 : Nat) ∧ True) ∧ (Array.size (drW ws (nA ts ds off i 1)) = (448 : Nat) ∧ Array.size (drW ws (nA ts ds off i 1)) = (448 : Nat) ∧ True) ∧ (Array.size (dropT ts (nW ts ds off i 1)) = (448 : Nat) ∧ Array.size (drW ws (nA ts ds off i 1)) = (448 : Nat) ∧ True) ∧ (Array.size (dropT ts (nW ts ds off i 1)) = (448 : Nat) ∧ Array.size (dropT ts (nW ts ds off i 1)) = Array.size ts ∧ True) ∧ (Array.size (drW ws (nA ts ds off i 1)) = (448 : Nat) ∧ Array.size (drW ws (nA ts ds off i 1)) = Array.size ws ∧ True) ∧ QB i (dropT ts (nW ts ds off i 1)) (drW ws (nA ts ds off i 1)) ks vs ∧ CallKind.normal = CallKind.normal ∧ TodoOk (ren 2 [(2, 2), (3, 3), (4, 4), (5, 5)]) wB_d0 wB_d0 ∧ off = off ∧ num = num ∧ i = i ∧ ask = ask ∧ ty = ty ∧ ds = ds ∧ (55 : TypeId) = (55 : TypeId) ∧ drW ws (nA ts ds off i 1) = drW ws (nA ts ds off i 1) ∧ (55 : TypeId) = (55 : TypeId) ∧ vs = vs ∧ (41 : TypeId) = (41 : TypeId) ∧ dropT ts (nW ts ds off i 1) = dropT ts (nW ts ds off i 1) ∧ (41 : TypeId) = (41 : TypeId) ∧ ks = ks ∧ True) ∧ (((getX5 ts (nW ts ds off i 1) == drE ws (nA ts ds off i 1)) == true) = false → (Array.size (dropT ts (nW ts ds off i 1)) = (448 : Nat) ∧ Array.size (dropT ts (nW ts ds off i 1)) = (448 : Nat) ∧ True) ∧ (Array.size (drW ws (nA ts ds off i 1)) = (448 : Nat) ∧ Array.size (drW ws (nA ts ds off i 1)) = (448 : Nat) ∧ True) ∧ (Array.size (dropT ts (nW ts ds off i 1)) = (448 : Nat) ∧ Array.size (drW ws (nA ts ds off i 1)) = (448 : Nat) ∧ True) ∧ (Array.size (dropT ts (nW ts ds off i 1)) = (448 : Nat) ∧ Array.size (dropT ts (nW ts ds off i 1)) = Array.size ts ∧ True) ∧ (Array.size (drW ws (nA ts ds off i 1)) = (448 : Nat) ∧ Array.size (drW ws (nA ts ds off i 1)) = Array.size ws ∧ True) ∧ false = true)) ∧ ((intAt ds (off + Int.toNat i * 15) == (0 : Int)) = false → ((intAt ds (off + Int.toNat i * 15) == (1 : Int)) = true → (Array.size ts = (448 : Nat) ∧ True) ∧ (SlX (aV ds off i) ∧ True) ∧ (decide (nV (aV ds off i) = (0 : Nat)) = true → (TbOk ts ∧ ((0 : Int) ≤ nW ts ds off i 1 ∧ nW ts ds off i 1 < (4294967296 : Int)) ∧ True) ∧ (Array.size (sNl ts ds off i) = (448 : Nat) ∧ Array.size (sNl ts ds off i) = Array.size ts ∧ True) ∧ (Array.size ws = (448 : Nat) ∧ True) ∧ (SW ts ws ∧ TbOk ts ∧ SlX (aV ds off i) ∧ True) ∧ (Array.size (sDW ts ws ds off i) = (448 : Nat) ∧ Array.size (sDW ts ws ds off i) = Array.size ws ∧ True) ∧ (Array.size (sNl ts ds off i) = (448 : Nat) ∧ True) ∧ (Array.size (sDW ts ws ds off i) = (448 : Nat) ∧ True) ∧ (((eW ts ds off i (decide (aC ds off i 6 = (0 : Int))) == eA ts ds off i (mA ds off i)) == true) = true → (Array.size (sNl ts ds off i) = (448 : Nat) ∧ Array.size (sNl ts ds off i) = (448 : Nat) ∧ True) ∧ (Array.size (sDW ts ws ds off i) = (448 : Nat) ∧ Array.size (sDW ts ws ds off i) = (448 : Nat) ∧ True) ∧ (Array.size (sNl ts ds off i) = (448 : Nat) ∧ Array.size (sDW ts ws ds off i) = (448 : Nat) ∧ True) ∧ (Array.size (sNl ts ds off i) = (448 : Nat) ∧ Array.size (sNl ts ds off i) = Array.size ts ∧ True) ∧ (Array.size (sDW ts ws ds off i) = (448 : Nat) ∧ Array.size (sDW ts ws ds off i) = Array.size ws ∧ True) ∧ QB i (sNl ts ds off i) (sDW ts ws ds off i) ks vs ∧ CallKind.normal = CallKind.normal ∧ TodoOk (ren 2 [(2, 2), (3, 3), (4, 4), (5, 5)]) wB_d0 wB_d0 ∧ off = off ∧ num = num ∧ i = i ∧ ask = ask ∧ ty = ty ∧ ds = ds ∧ (55 : TypeId) = (55 : TypeId) ∧ sDW ts ws ds off i = sDW ts ws ds off i ∧ (55 : TypeId) = (55 : TypeId) ∧ vs = vs ∧ (41 : TypeId) = (41 : TypeId) ∧ sNl ts ds off i = sNl ts ds off i ∧ (41 : TypeId) = (41 : TypeId) ∧ ks = ks ∧ True) ∧ (((eW ts ds off i (decide (aC ds off i 6 = (0 : Int))) == eA ts ds off i (mA ds off i)) == true) = false → (Array.size (sNl ts ds off i) = (448 : Nat) ∧ Array.size (sNl ts ds off i) = (448 : Nat) ∧ True) ∧ (Array.size (sDW ts ws ds off i) = (448 : Nat) ∧ Array.size (sDW ts ws ds off i) = (448 : Nat) ∧ True) ∧ (Array.size (sNl ts ds off i) = (448 : Nat) ∧ Array.size (sDW ts ws ds off i) = (448 : Nat) ∧ True) ∧ (Array.size (sNl ts ds off i) = (448 : Nat) ∧ Array.size (sNl ts ds off i) = Array.size ts ∧ True) ∧ (Array.size (sDW ts ws ds off i) = (448 : Nat) ∧ Array.size (sDW ts ws ds off i) = Array.size ws ∧ True) ∧ false = true)) ∧ (decide (nV (aV ds off i) = (0 : Nat)) = false → (TbOk ts ∧ ((0 : Int) ≤ nW ts ds off i 1 ∧ nW ts ds off i 1 < (4294967296 : Int)) ∧ PrOk (rowK (aV ds off i)) (0 : Nat) (nV (aV ds off i)) ∧ True) ∧ (decide (eW ts ds off i (mA ds off i) = (0 : Int)) = true → (Array.size (sP0 ts ds off i) = (448 : Nat) ∧ Array.size (sP0 ts ds off i) = Array.size ts ∧ True) ∧ (Array.size ws = (448 : Nat) ∧ True) ∧ (SW ts ws ∧ TbOk ts ∧ SlX (aV ds off i) ∧ True) ∧ (Array.size (sDW ts ws ds off i) = (448 : Nat) ∧ Array.size (sDW ts ws ds off i) = Array.size ws ∧ True) ∧ (Array.size (sP0 ts ds off i) = (448 : Nat) ∧ True) ∧ (Array.size (sDW ts ws ds off i) = (448 : Nat) ∧ True) ∧ ((((0 : Int) == eA ts ds off i (mA ds off i)) == true) = true → (Array.size (sP0 ts ds off i) = (448 : Nat) ∧ Array.size (sP0 ts ds off i) = (448 : Nat) ∧ True) ∧ (Array.size (sDW ts ws ds off i) = (448 : Nat) ∧ Array.size (sDW ts ws ds off i) = (448 : Nat) ∧ True) ∧ (Array.size (sP0 ts ds off i) = (448 : Nat) ∧ Array.size (sDW ts ws ds off i) = (448 : Nat) ∧ True) ∧ (Array.size (sP0 ts ds off i) = (448 : Nat) ∧ Array.size (sP0 ts ds off i) = Array.size ts ∧ True) ∧ (Array.size (sDW ts ws ds off i) = (448 : Nat) ∧ Array.size (sDW ts ws ds off i) = Array.size ws ∧ True) ∧ QP i (sP0 ts ds off i) (pl (nW ts ds off i 1) + 2) (nV (aV ds off i)) (Array.extract (rowK (aV ds off i)) (0 : Nat) ((0 : Nat) + nV (aV ds off i) * 2)) (sDW ts ws ds off i) ks vs ∧ CallKind.normal = CallKind.normal ∧ TodoOk (ren 2 [(2, 2), (3, 3), (4, 4), (5, 5), (6, 13)]) wB_d0 wB_d0 ∧ off = off ∧ num = num ∧ i = i ∧ ask = ask ∧ ty = ty ∧ ds = ds ∧ (55 : TypeId) = (55 : TypeId) ∧ sDW ts ws ds off i = sDW ts ws ds off i ∧ (55 : TypeId) = (55 : TypeId) ∧ vs = vs ∧ (41 : TypeId) = (41 : TypeId) ∧ sP0 ts ds off i = sP0 ts ds off i ∧ pl (nW ts ds off i 1) + 2 = pl (nW ts ds off i 1) + 2 ∧ nV (aV ds off i) = nV (aV ds off i) ∧ (41 : TypeId) = (41 : TypeId) ∧ ks = ks ∧ (89 : TypeId) = (89 : TypeId) ∧ Array.extract (rowK (aV ds off i)) (0 : Nat) ((0 : Nat) + nV (aV ds off i) * 2) = Array.extract (rowK (aV ds off i)) (0 : Nat) ((0 : Nat) + nV (aV ds off i) * 2) ∧ True) ∧ ((((0 : Int) == eA ts ds off i (mA ds off i)) == true) = false → (Array.size (sP0 ts ds off i) = (448 : Nat) ∧ Array.size (sP0 ts ds off i) = (448 : Nat) ∧ True) ∧ (Array.size (sDW ts ws ds off i) = (448 : Nat) ∧ Array.size (sDW ts ws ds off i) = (448 : Nat) ∧ True) ∧ (Array.size (sP0 ts ds off i) = (448 : Nat) ∧ Array.size (sDW ts ws ds off i) = (448 : Nat) ∧ True) ∧ (Array.size (sP0 ts ds off i) = (448 : Nat) ∧ Array.size (sP0 ts ds off i) = Array.size ts ∧ True) ∧ (Array.size (sDW ts ws ds off i) = (448 : Nat) ∧ Array.size (sDW ts ws ds off i) = Array.size ws ∧ True) ∧ false = true)) ∧ (decide (eW ts ds off i (mA ds off i) = (0 : Int)) = false → (Array.size ts = (448 : Nat) ∧ Array.size ts = Array.size ts ∧ True) ∧ (Array.size ws = (448 : Nat) ∧ True) ∧ (SW ts ws ∧ TbOk ts ∧ SlX (aV ds off i) ∧ True) ∧ (Array.size (sDW ts ws ds off i) = (448 : Nat) ∧ Array.size (sDW ts ws ds off i) = Array.size ws ∧ True) ∧ (Array.size ts = (448 : Nat) ∧ True) ∧ (Array.size (sDW ts ws ds off i) = (448 : Nat) ∧ True) ∧ (((eW ts ds off i (mA ds off i) == eA ts ds off i (mA ds off i)) == true) = true → (Array.size ts = (448 : Nat) ∧ Array.size ts = (448 : Nat) ∧ True) ∧ (Array.size (sDW ts ws ds off i) = (448 : Nat) ∧ Array.size (sDW ts ws ds off i) = (448 : Nat) ∧ True) ∧ (Array.size ts = (448 : Nat) ∧ Array.size (sDW ts ws ds off i) = (448 : Nat) ∧ True) ∧ (Array.size ts = (448 : Nat) ∧ Array.size ts = Array.size ts ∧ True) ∧ (Array.size (sDW ts ws ds off i) = (448 : Nat) ∧ Array.size (sDW ts ws ds off i) = Array.size ws ∧ True) ∧ QB i ts (sDW ts ws ds off i) ks vs ∧ CallKind.normal = CallKind.normal ∧ TodoOk (ren 2 [(2, 2), (3, 3), (4, 4), (5, 5)]) wB_d0 wB_d0 ∧ off = off ∧ num = num ∧ i = i ∧ ask = ask ∧ ty = ty ∧ ds = ds ∧ (55 : TypeId) = (55 : TypeId) ∧ sDW ts ws ds off i = sDW ts ws ds off i ∧ (55 : TypeId) = (55 : TypeId) ∧ vs = vs ∧ (41 : TypeId) = (41 : TypeId) ∧ ts = ts ∧ (41 : TypeId) = (41 : TypeId) ∧ ks = ks ∧ True) ∧ (((eW ts ds off i (mA ds off i) == eA ts ds off i (mA ds off i)) == true) = false → (Array.size ts = (448 : Nat) ∧ Array.size ts = (448 : Nat) ∧ True) ∧ (Array.size (sDW ts ws ds off i) = (448 : Nat) ∧ Array.size (sDW ts ws ds off i) = (448 : Nat) ∧ True) ∧ (Array.size ts = (448 : Nat) ∧ Array.size (sDW ts ws ds off i) = (448 : Nat) ∧ True) ∧ (Array.size ts = (448 : Nat) ∧ Array.size ts = Array.size ts ∧ True) ∧ (Array.size (sDW ts ws ds off i) = (448 : Nat) ∧ Array.size (sDW ts ws ds off i) = Array.size ws ∧ True) ∧ false = true)))) ∧ ((intAt ds (off + Int.toNat i * 15) == (1 : Int)) = false → ((intAt ds (off + Int.toNat i * 15) == (2 : Int)) = true → (Array.size ts = (448 : Nat) ∧ True) ∧ (FIn ts ∧ ((0 : Int) ≤ nW ts ds off i 1 ∧ nW ts ds off i 1 < (4294967296 : Int)) ∧ ((0 : Int) ≤ nW ts ds off i 2 ∧ nW ts ds off i 2 < (4294967296 : Int)) ∧ True) ∧ (Array.size (raT ts (nW ts ds off i 1) (nW ts ds off i 2)) = (448 : Nat) ∧ Array.size (raT ts (nW ts ds off i 1) (nW ts ds off i 2)) = Array.size ts ∧ True) ∧ (Array.size ws = (448 : Nat) ∧ True) ∧ (SW ts ws ∧ FIn ts ∧ True) ∧ (Array.size (raW ts ws (nA ts ds off i 1) (nA ts ds off i 2)) = (448 : Nat) ∧ Array.size (raW ts ws (nA ts ds off i 1) (nA ts ds off i 2)) = Array.size ws ∧ True) ∧ (Array.size (raT ts (nW ts ds off i 1) (nW ts ds off i 2)) = (448 : Nat) ∧ True) ∧ (Array.size (raW ts ws (nA ts ds off i 1) (nA ts ds off i 2)) = (448 : Nat) ∧ True) ∧ (((raE ts (nW ts ds off i 1) (nW ts ds off i 2) == raE ts (nA ts ds off i 1) (nA ts ds off i 2)) == true) = true → (Array.size (raT ts (nW ts ds off i 1) (nW ts ds off i 2)) = (448 : Nat) ∧ Array.size (raT ts (nW ts ds off i 1) (nW ts ds off i 2)) = (448 : Nat) ∧ True) ∧ (Array.size (raW ts ws (nA ts ds off i 1) (nA ts ds off i 2)) = (448 : Nat) ∧ Array.size (raW ts ws (nA ts ds off i 1) (nA ts ds off i 2)) = (448 : Nat) ∧ True) ∧ (Array.size (raT ts (nW ts ds off i 1) (nW ts ds off i 2)) = (448 : Nat) ∧ Array.size (raW ts ws (nA ts ds off i 1) (nA ts ds off i 2)) = (448 : Nat) ∧ True) ∧ (Array.size (raT ts (nW ts ds off i 1) (nW ts ds off i 2)) = (448 : Nat) ∧ Array.size (raT ts (nW ts ds off i 1) (nW ts ds off i 2)) = Array.size ts ∧ True) ∧ (Array.size (raW ts ws (nA ts ds off i 1) (nA ts ds off i 2)) = (448 : Nat) ∧ Array.size (raW ts ws (nA ts ds off i 1) (nA ts ds off i 2)) = Array.size ws ∧ True) ∧ QB i (raT ts (nW ts ds off i 1) (nW ts ds off i 2)) (raW ts ws (nA ts ds off i 1) (nA ts ds off i 2)) ks vs ∧ CallKind.normal = CallKind.normal ∧ TodoOk (ren 2 [(2, 2), (3, 3), (4, 4), (5, 5)]) wB_d0 wB_d0 ∧ off = off ∧ num = num ∧ i = i ∧ ask = ask ∧ ty = ty ∧ ds = ds ∧ (55 : TypeId) = (55 : TypeId) ∧ raW ts ws (nA ts ds off i 1) (nA ts ds off i 2) = raW ts ws (nA ts ds off i 1) (nA ts ds off i 2) ∧ (55 : TypeId) = (55 : TypeId) ∧ vs = vs ∧ (41 : TypeId) = (41 : TypeId) ∧ raT ts (nW ts ds off i 1) (nW ts ds off i 2) = raT ts (nW ts ds off i 1) (nW ts ds off i 2) ∧ (41 : TypeId) = (41 : TypeId) ∧ ks = ks ∧ True) ∧ (((raE ts (nW ts ds off i 1) (nW ts ds off i 2) == raE ts (nA ts ds off i 1) (nA ts ds off i 2)) == true) = false → (Array.size (raT ts (nW ts ds off i 1) (nW ts ds off i 2)) = (448 : Nat) ∧ Array.size (raT ts (nW ts ds off i 1) (nW ts ds off i 2)) = (448 : Nat) ∧ True) ∧ (Array.size (raW ts ws (nA ts ds off i 1) (nA ts ds off i 2)) = (448 : Nat) ∧ Array.size (raW ts ws (nA ts ds off i 1) (nA ts ds off i 2)) = (448 : Nat) ∧ True) ∧ (Array.size (raT ts (nW ts ds off i 1) (nW ts ds off i 2)) = (448 : Nat) ∧ Array.size (raW ts ws (nA ts ds off i 1) (nA ts ds off i 2)) = (448 : Nat) ∧ True) ∧ (Array.size (raT ts (nW ts ds off i 1) (nW ts ds off i 2)) = (448 : Nat) ∧ Array.size (raT ts (nW ts ds off i 1) (nW ts ds off i 2)) = Array.size ts ∧ True) ∧ (Array.size (raW ts ws (nA ts ds off i 1) (nA ts ds off i 2)) = (448 : Nat) ∧ Array.size (raW ts ws (nA ts ds off i 1) (nA ts ds off i 2)) = Array.size ws ∧ True) ∧ false = true)) ∧ ((intAt ds (off + Int.toNat i * 15) == (2 : Int)) = false → (Array.size ts = (448 : Nat) ∧ True) ∧ (TbOk ts ∧ ((0 : Int) ≤ nW ts ds off i 1 ∧ nW ts ds off i 1 < (4294967296 : Int)) ∧ True) ∧ (Array.size (newT ts (nW ts ds off i 1) (aC ds off i 4)) = (448 : Nat) ∧ Array.size (newT ts (nW ts ds off i 1) (aC ds off i 4)) = Array.size ts ∧ True) ∧ (Array.size ws = (448 : Nat) ∧ True) ∧ (SW ts ws ∧ TbOk ts ∧ True) ∧ (Array.size (nwW ts ws (nA ts ds off i 1) (aC ds off i 4)) = (448 : Nat) ∧ Array.size (nwW ts ws (nA ts ds off i 1) (aC ds off i 4)) = Array.size ws ∧ True) ∧ (Array.size (newT ts (nW ts ds off i 1) (aC ds off i 4)) = (448 : Nat) ∧ True) ∧ (Array.size (nwW ts ws (nA ts ds off i 1) (aC ds off i 4)) = (448 : Nat) ∧ True) ∧ (((newE ts (nW ts ds off i 1) (aC ds off i 4) == newE ts (nA ts ds off i 1) (aC ds off i 4)) == true) = true → (Array.size (newT ts (nW ts ds off i 1) (aC ds off i 4)) = (448 : Nat) ∧ Array.size (newT ts (nW ts ds off i 1) (aC ds off i 4)) = (448 : Nat) ∧ True) ∧ (Array.size (nwW ts ws (nA ts ds off i 1) (aC ds off i 4)) = (448 : Nat) ∧ Array.size (nwW ts ws (nA ts ds off i 1) (aC ds off i 4)) = (448 : Nat) ∧ True) ∧ (Array.size (newT ts (nW ts ds off i 1) (aC ds off i 4)) = (448 : Nat) ∧ Array.size (nwW ts ws (nA ts ds off i 1) (aC ds off i 4)) = (448 : Nat) ∧ True) ∧ (Array.size (newT ts (nW ts ds off i 1) (aC ds off i 4)) = (448 : Nat) ∧ Array.size (newT ts (nW ts ds off i 1) (aC ds off i 4)) = Array.size ts ∧ True) ∧ (Array.size (nwW ts ws (nA ts ds off i 1) (aC ds off i 4)) = (448 : Nat) ∧ Array.size (nwW ts ws (nA ts ds off i 1) (aC ds off i 4)) = Array.size ws ∧ True) ∧ ((!IntKind.wrap IntKind.i64 (newI ts (nW ts ds off i 1) (aC ds off i 4)) == newI ts (nA ts ds off i 1) (aC ds off i 4)) = true → false = true) ∧ ((!IntKind.wrap IntKind.i64 (newI ts (nW ts ds off i 1) (aC ds off i 4)) == newI ts (nA ts ds off i 1) (aC ds off i 4)) = false → QB i (newT ts (nW ts ds off i 1) (aC ds off i 4)) (nwW ts ws (nA ts ds off i 1) (aC ds off i 4)) ks vs ∧ CallKind.normal = CallKind.normal ∧ TodoOk (ren 2 [(2, 2), (3, 3), (4, 4), (5, 5)]) wB_d0 wB_d0 ∧ off = off ∧ num = num ∧ i = i ∧ ask = ask ∧ ty = ty ∧ ds = ds ∧ (55 : TypeId) = (55 : TypeId) ∧ nwW ts ws (nA ts ds off i 1) (aC ds off i 4) = nwW ts ws (nA ts ds off i 1) (aC ds off i 4) ∧ (55 : TypeId) = (55 : TypeId) ∧ vs = vs ∧ (41 : TypeId) = (41 : TypeId) ∧ newT ts (nW ts ds off i 1) (aC ds off i 4) = newT ts (nW ts ds off i 1) (aC ds off i 4) ∧ (41 : TypeId) = (41 : TypeId) ∧ ks = ks ∧ True)) ∧ (((newE ts (nW ts ds off i 1) (aC ds off i 4) == newE ts (nA ts ds off i 1) (aC ds off i 4)) == true) = false → (Array.size (newT ts (nW ts ds off i 1) (aC ds off i 4)) = (448 : Nat) ∧ Array.size (newT ts (nW ts ds off i 1) (aC ds off i 4)) = (448 : Nat) ∧ True) ∧ (Array.size (nwW ts ws (nA ts ds off i 1) (aC ds off i 4)) = (448 : Nat) ∧ Array.size (nwW ts ws (nA ts ds off i 1) (aC ds off i 4)) = (448 : Nat) ∧ True) ∧ (Array.size (newT ts (nW ts ds off i 1) (aC ds off i 4)) = (448 : Nat) ∧ Array.size (nwW ts ws (nA ts ds off i 1) (aC ds off i 4)) = (448 : Nat) ∧ True) ∧ (Array.size (newT ts (nW ts ds off i 1) (aC ds off i 4)) = (448 : Nat) ∧ Array.size (newT ts (nW ts ds off i 1) (aC ds off i 4)) = Array.size ts ∧ True) ∧ (Array.size (nwW ts ws (nA ts ds off i 1) (aC ds off i 4)) = (448 : Nat) ∧ Array.size (nwW ts ws (nA ts ds off i 1) (aC ds off i 4)) = Array.size ws ∧ True) ∧ false = true))))) ∧ (decide (i < (↑num : Int)) = false → (Array.size ts = (448 : Nat) ∧ True) ∧ (TbOk ts ∧ ((0 : Int) ≤ ask ∧ ask < (4294967296 : Int)) ∧ True) ∧ (gdF ts ask = true → (decide (nV (slF ts ask) = (0 : Nat)) = true → (Array.size ts = (448 : Nat) ∧ True) ∧ (Array.size ws = (448 : Nat) ∧ True) ∧ (SW ts ws ∧ TbOk ts ∧ True) ∧ (Array.size ks = (448 : Nat) ∧ True) ∧ (Array.size vs = (448 : Nat) ∧ True) ∧ (SW ks vs ∧ TbOk ks ∧ True) ∧ (64 ≤ Array.size ts ∧ True) ∧ (BkOk (Array.extract ts (0 : Nat) (64)) ∧ ((0 : Int) ≤ ask ∧ ask < (4294967296 : Int)) ∧ True) ∧ (Array.size ws = (448 : Nat) ∧ True) ∧ (SW ts ws ∧ TbOk ts ∧ True) ∧ (((goodB (Array.extract ts (0 : Nat) (64)) ask == gdF ts (IntKind.wrap IntKind.i64 ask)) == true) = true → (Array.size ws = (448 : Nat) ∧ True) ∧ (SW ts ws ∧ TbOk ts ∧ True) ∧ (((((0 : Int) == (0 : Int)) == gdF ts (IntKind.wrap IntKind.i64 ask)) == true) = true → (false = true → (false = true → true = true) ∧ (false = false → false = true)) ∧ (false = false → true = true)) ∧ (((((0 : Int) == (0 : Int)) == gdF ts (IntKind.wrap IntKind.i64 ask)) == true) = false → false = true)) ∧ (((goodB (Array.extract ts (0 : Nat) (64)) ask == gdF ts (IntKind.wrap IntKind.i64 ask)) == true) = false → false = true)) ∧ (decide (nV (slF ts ask) = (0 : Nat)) = false → (Array.size ts = (448 : Nat) ∧ True) ∧ (Array.size ws = (448 : Nat) ∧ True) ∧ (SW ts ws ∧ TbOk ts ∧ True) ∧ (Array.size ks = (448 : Nat) ∧ True) ∧ (Array.size vs = (448 : Nat) ∧ True) ∧ (SW ks vs ∧ TbOk ks ∧ True) ∧ (64 ≤ Array.size ts ∧ True) ∧ (BkOk (Array.extract ts (0 : Nat) (64)) ∧ ((0 : Int) ≤ ask ∧ ask < (4294967296 : Int)) ∧ True) ∧ (Array.size ws = (448 : Nat) ∧ True) ∧ (SW ts ws ∧ TbOk ts ∧ True) ∧ (((goodB (Array.extract ts (0 : Nat) (64)) ask == gdF ts (IntKind.wrap IntKind.i64 ask)) == true) = true → (Array.size ws = (448 : Nat) ∧ True) ∧ (SW ts ws ∧ TbOk ts ∧ True) ∧ (((((0 : Int) == (0 : Int)) == gdF ts (IntKind.wrap IntKind.i64 ask)) == true) = true → (false = true → (false = true → true = true) ∧ (false = false → false = true)) ∧ (false = false → true = true)) ∧ (((((0 : Int) == (0 : Int)) == gdF ts (IntKind.wrap IntKind.i64 ask)) == true) = false → false = true)) ∧ (((goodB (Array.extract ts (0 : Nat) (64)) ask == gdF ts (IntKind.wrap IntKind.i64 ask)) == true) = false → false = true))) ∧ (gdF ts ask = false → (Array.size ts = (448 : Nat) ∧ True) ∧ (Array.size ws = (448 : Nat) ∧ True) ∧ (SW ts ws ∧ TbOk ts ∧ True) ∧ (Array.size ks = (448 : Nat) ∧ True) ∧ (Array.size vs = (448 : Nat) ∧ True) ∧ (SW ks vs ∧ TbOk ks ∧ True) ∧ (64 ≤ Array.size ts ∧ True) ∧ (BkOk (Array.extract ts (0 : Nat) (64)) ∧ ((0 : Int) ≤ ask ∧ ask < (4294967296 : Int)) ∧ True) ∧ (Array.size ws = (448 : Nat) ∧ True) ∧ (SW ts ws ∧ TbOk ts ∧ True) ∧ (((goodB (Array.extract ts (0 : Nat) (64)) ask == gdF ts (IntKind.wrap IntKind.i64 ask)) == true) = true → (Array.size ws = (448 : Nat) ∧ True) ∧ (SW ts ws ∧ TbOk ts ∧ True) ∧ (((((4 : Int) == (0 : Int)) == gdF ts (IntKind.wrap IntKind.i64 ask)) == true) = true → (true = true → (true = true → true = true) ∧ (true = false → false = true)) ∧ (true = false → true = true)) ∧ (((((4 : Int) == (0 : Int)) == gdF ts (IntKind.wrap IntKind.i64 ask)) == true) = false → false = true)) ∧ (((goodB (Array.extract ts (0 : Nat) (64)) ask == gdF ts (IntKind.wrap IntKind.i64 ask)) == true) = false → false = true)))) := by kernel_rfl
theorem wb (off num : Nat) (ds : Array Value) (ty : TypeId) (ask i : Int) (ts ws ks vs : Array Value) (Q : Int → Array Value → Array Value → Array Value → Array Value → Prop) : (stepT (EW ts).go (run (EW ts) 1000) 2 (wB_F off num ds ty ask i ts ws ks vs) (wB_M off num ds ty ask i ts ws ks vs)).vc (isB true) (wA_n off num ds ty ask Q) =
    (((i == ari BinOp.quo IntKind.i64 (↑num : Int) (2 : Int)) = true → (Array.size ts = (448 : Nat) ∧ True) ∧ (Array.size ts = (448 : Nat) ∧ Array.size ts = Array.size ks ∧ True) ∧ (Array.size ws = (448 : Nat) ∧ True) ∧ (Array.size ws = (448 : Nat) ∧ Array.size ws = Array.size vs ∧ True) ∧ Q (ari BinOp.add IntKind.i64 i (1 : Int)) ts ws ts ws ∧ CallKind.normal = CallKind.normal ∧ TodoOk (ren 2 [(2, 2), (3, 3), (4, 4), (5, 5)]) wA_d0 wA_d0 ∧ off = off ∧ num = num ∧ ari BinOp.add IntKind.i64 i (1 : Int) = ari BinOp.add IntKind.i64 i (1 : Int) ∧ ask = ask ∧ ty = ty ∧ ds = ds ∧ (55 : TypeId) = (55 : TypeId) ∧ ws = ws ∧ (55 : TypeId) = (55 : TypeId) ∧ ws = ws ∧ (41 : TypeId) = (41 : TypeId) ∧ ts = ts ∧ (41 : TypeId) = (41 : TypeId) ∧ ts = ts ∧ True) ∧ ((i == ari BinOp.quo IntKind.i64 (↑num : Int) (2 : Int)) = false → Q (ari BinOp.add IntKind.i64 i (1 : Int)) ts ws ks vs ∧ CallKind.normal = CallKind.normal ∧ TodoOk (ren 2 [(2, 2), (3, 3), (4, 4), (5, 5)]) wA_d0 wA_d0 ∧ off = off ∧ num = num ∧ ari BinOp.add IntKind.i64 i (1 : Int) = ari BinOp.add IntKind.i64 i (1 : Int) ∧ ask = ask ∧ ty = ty ∧ ds = ds ∧ (55 : TypeId) = (55 : TypeId) ∧ ws = ws ∧ (55 : TypeId) = (55 : TypeId) ∧ vs = vs ∧ (41 : TypeId) = (41 : TypeId) ∧ ts = ts ∧ (41 : TypeId) = (41 : TypeId) ∧ ks = ks ∧ True)) := by kernel_rfl
omit [Gh] in
theorem wl (off num : Nat) (ds : Array Value) (ty : TypeId) (ask i : Int) (us : Array Value) (o n : Nat) (cs ws ks vs ts : Array Value) (QB : Int → Array Value → Array Value → Array Value → Array Value → Prop) : wB_n off num ds ty ask QB (wP_F off num ds ty ask i us o n cs ws ks vs) ⟨7, ((wP_M off num ds ty ask i us o n cs ws ks vs).bl.set 2 (some ⟨.op ts, 41, true⟩)).set 6 none, []⟩ =
    (QB i ts ws ks vs ∧ CallKind.normal = CallKind.normal ∧ TodoOk (ren 2 [(2, 2), (3, 3), (4, 4), (5, 5)]) wB_d0 wB_d0 ∧ off = off ∧ num = num ∧ i = i ∧ ask = ask ∧ ty = ty ∧ ds = ds ∧ (55 : TypeId) = (55 : TypeId) ∧ ws = ws ∧ (55 : TypeId) = (55 : TypeId) ∧ vs = vs ∧ (41 : TypeId) = (41 : TypeId) ∧ ts = ts ∧ (41 : TypeId) = (41 : TypeId) ∧ ks = ks ∧ True) := by kernel_rfl
theorem w0 (off num : Nat) (ds : Array Value) (ty : TypeId) (go gn : Nat) (gs : Array Value) (tg : TypeId) (ask : Int) (Q : Int → Array Value → Array Value → Array Value → Array Value → Prop) : (run (EW #[]) 1000 2 [callFr 3 Tryd.f3.ntmps [.s (.c (.f (.slice 1 (.o go) (.o gn) .any))), acS off num, u32 ask] (Tryd.f3.body.getD .skip)] (mkM 2 [(0, ⟨.raw ds, ty, false⟩), (1, ⟨.raw gs, tg, false⟩)])).vc (isB true) (wA_n off num ds ty ask Q) =
    ((AcOk ds off num ∧ True) ∧ ((grB ds off num == false) = true → (decide ((↑gn : Int) > (100 : Int)) = true → true = true) ∧ (decide ((↑gn : Int) > (100 : Int)) = false → (GnIn gs go gn ∧ True) ∧ (GnIn gs go gn ∧ True) ∧ (Array.size (agedW gs go gn) = (64 : Nat) ∧ 64 ≤ (448 : Nat) ∧ True) ∧ (Array.size (agdT gs go gn) = (448 : Nat) ∧ Array.size (agdT gs go gn) = (448 : Nat) ∧ True) ∧ (Array.size (putAt zW (0 : Nat) (Array.toList (agedW gs go gn))) = (448 : Nat) ∧ Array.size (putAt zW (0 : Nat) (Array.toList (agedW gs go gn))) = (448 : Nat) ∧ True) ∧ (Array.size (agdT gs go gn) = (448 : Nat) ∧ True) ∧ (Array.size (putAt zW (0 : Nat) (Array.toList (agedW gs go gn))) = (448 : Nat) ∧ True) ∧ (Array.size (agdT gs go gn) = (448 : Nat) ∧ Array.size (agdT gs go gn) = (448 : Nat) ∧ True) ∧ (Array.size (putAt zW (0 : Nat) (Array.toList (agedW gs go gn))) = (448 : Nat) ∧ Array.size (putAt zW (0 : Nat) (Array.toList (agedW gs go gn))) = (448 : Nat) ∧ True) ∧ Q (0 : Int) (agdT gs go gn) (putAt zW (0 : Nat) (Array.toList (agedW gs go gn))) (agdT gs go gn) (putAt zW (0 : Nat) (Array.toList (agedW gs go gn))) ∧ CallKind.normal = CallKind.normal ∧ TodoOk (ren 2 [(2, 2), (3, 3), (4, 4), (5, 5)]) wA_d0 wA_d0 ∧ off = off ∧ num = num ∧ (0 : Int) = (0 : Int) ∧ ask = ask ∧ ty = ty ∧ ds = ds ∧ (55 : TypeId) = (55 : Nat) ∧ putAt zW (0 : Nat) (Array.toList (agedW gs go gn)) = putAt zW (0 : Nat) (Array.toList (agedW gs go gn)) ∧ (55 : TypeId) = (55 : Nat) ∧ putAt zW (0 : Nat) (Array.toList (agedW gs go gn)) = putAt zW (0 : Nat) (Array.toList (agedW gs go gn)) ∧ (41 : TypeId) = (41 : Nat) ∧ agdT gs go gn = agdT gs go gn ∧ (41 : TypeId) = (41 : Nat) ∧ agdT gs go gn = agdT gs go gn ∧ True)) ∧ ((grB ds off num == false) = false → true = true)) := by kernel_rfl
theorem w1 (off num : Nat) (ds : Array Value) (ty : TypeId) (ask : Int) (Q : Int → Array Value → Array Value → Array Value → Array Value → Prop) : (run (EW #[]) 1000 2 [callFr 3 Tryd.f3.ntmps [.s (.c (.f .e0)), acS off num, u32 ask] (Tryd.f3.body.getD .skip)] (mkM 2 [(0, ⟨.raw ds, ty, false⟩)])).vc (isB true) (wA_n off num ds ty ask Q) =
    ((AcOk ds off num ∧ True) ∧ ((grB ds off num == false) = true → ((64 : Nat) = (64 : Nat) ∧ 64 ≤ (448 : Nat) ∧ True) ∧ ((448 : Nat) = (448 : Nat) ∧ (448 : Nat) = (448 : Nat) ∧ True) ∧ ((448 : Nat) = (448 : Nat) ∧ (448 : Nat) = (448 : Nat) ∧ True) ∧ ((448 : Nat) = (448 : Nat) ∧ True) ∧ ((448 : Nat) = (448 : Nat) ∧ True) ∧ ((448 : Nat) = (448 : Nat) ∧ (448 : Nat) = (448 : Nat) ∧ True) ∧ ((448 : Nat) = (448 : Nat) ∧ (448 : Nat) = (448 : Nat) ∧ True) ∧ Q (0 : Int) (agdT #[] (0 : Nat) (0 : Nat)) (putAt zW (0 : Nat) (Array.toList zB)) (agdT #[] (0 : Nat) (0 : Nat)) (putAt zW (0 : Nat) (Array.toList zB)) ∧ CallKind.normal = CallKind.normal ∧ TodoOk (ren 2 [(2, 2), (3, 3), (4, 4), (5, 5)]) wA_d0 wA_d0 ∧ off = off ∧ num = num ∧ (0 : Int) = (0 : Int) ∧ ask = ask ∧ ty = ty ∧ ds = ds ∧ (55 : TypeId) = (55 : Nat) ∧ putAt zW (0 : Nat) (Array.toList zB) = putAt zW (0 : Nat) (Array.toList zB) ∧ (55 : TypeId) = (55 : Nat) ∧ putAt zW (0 : Nat) (Array.toList zB) = putAt zW (0 : Nat) (Array.toList zB) ∧ (41 : TypeId) = (41 : Nat) ∧ agdT #[] (0 : Nat) (0 : Nat) = agdT #[] (0 : Nat) (0 : Nat) ∧ (41 : TypeId) = (41 : Nat) ∧ agdT #[] (0 : Nat) (0 : Nat) = agdT #[] (0 : Nat) (0 : Nat) ∧ True) ∧ ((grB ds off num == false) = false → true = true)) := by kernel_rfl
theorem wz0 (ts : Array Value) (go gn : Nat) (gs : Array Value) (tg : TypeId) (ask : Int) : (run (EWz ts) 1000 1 [callFr 3 Tryd.f3.ntmps [gnS go gn, .s (.c (.f .e0)), u32 ask] (Tryd.f3.body.getD .skip)] (rM gs tg)).vc (isB true) (fun _ _ => False) =
    ((true = true → (decide ((↑gn : Int) > (100 : Int)) = true → true = true) ∧ (decide ((↑gn : Int) > (100 : Int)) = false → (GnIn gs go gn ∧ True) ∧ (GnIn gs go gn ∧ True) ∧ (Array.size (agedW gs go gn) = (64 : Nat) ∧ 64 ≤ (448 : Nat) ∧ True) ∧ (Array.size (agdT gs go gn) = (448 : Nat) ∧ Array.size (agdT gs go gn) = (448 : Nat) ∧ True) ∧ (Array.size (putAt zW (0 : Nat) (Array.toList (agedW gs go gn))) = (448 : Nat) ∧ Array.size (putAt zW (0 : Nat) (Array.toList (agedW gs go gn))) = (448 : Nat) ∧ True) ∧ (Array.size (agdT gs go gn) = (448 : Nat) ∧ True) ∧ (Array.size (putAt zW (0 : Nat) (Array.toList (agedW gs go gn))) = (448 : Nat) ∧ True) ∧ (Array.size (agdT gs go gn) = (448 : Nat) ∧ Array.size (agdT gs go gn) = (448 : Nat) ∧ True) ∧ (Array.size (putAt zW (0 : Nat) (Array.toList (agedW gs go gn))) = (448 : Nat) ∧ Array.size (putAt zW (0 : Nat) (Array.toList (agedW gs go gn))) = (448 : Nat) ∧ True) ∧ (Array.size (agdT gs go gn) = (448 : Nat) ∧ True) ∧ (TbOk (agdT gs go gn) ∧ ((0 : Int) ≤ ask ∧ ask < (4294967296 : Int)) ∧ True) ∧ (gdF (agdT gs go gn) ask = true → (decide (nV (slF (agdT gs go gn) ask) = (0 : Nat)) = true → (Array.size (agdT gs go gn) = (448 : Nat) ∧ True) ∧ (Array.size (putAt zW (0 : Nat) (Array.toList (agedW gs go gn))) = (448 : Nat) ∧ True) ∧ (SW (agdT gs go gn) (putAt zW (0 : Nat) (Array.toList (agedW gs go gn))) ∧ TbOk (agdT gs go gn) ∧ True) ∧ (Array.size (agdT gs go gn) = (448 : Nat) ∧ True) ∧ (Array.size (putAt zW (0 : Nat) (Array.toList (agedW gs go gn))) = (448 : Nat) ∧ True) ∧ (SW (agdT gs go gn) (putAt zW (0 : Nat) (Array.toList (agedW gs go gn))) ∧ TbOk (agdT gs go gn) ∧ True) ∧ (64 ≤ Array.size (agdT gs go gn) ∧ True) ∧ (BkOk (Array.extract (agdT gs go gn) (0 : Nat) (64)) ∧ ((0 : Int) ≤ ask ∧ ask < (4294967296 : Int)) ∧ True) ∧ (Array.size (putAt zW (0 : Nat) (Array.toList (agedW gs go gn))) = (448 : Nat) ∧ True) ∧ (SW ts (putAt zW (0 : Nat) (Array.toList (agedW gs go gn))) ∧ TbOk ts ∧ True) ∧ (((goodB (Array.extract (agdT gs go gn) (0 : Nat) (64)) ask == gdF ts (IntKind.wrap IntKind.i64 ask)) == true) = true → (Array.size (putAt zW (0 : Nat) (Array.toList (agedW gs go gn))) = (448 : Nat) ∧ True) ∧ (SW ts (putAt zW (0 : Nat) (Array.toList (agedW gs go gn))) ∧ TbOk ts ∧ True) ∧ (((((0 : Int) == (0 : Int)) == gdF ts (IntKind.wrap IntKind.i64 ask)) == true) = true → (false = true → (false = true → true = true) ∧ (false = false → false = true)) ∧ (false = false → true = true)) ∧ (((((0 : Int) == (0 : Int)) == gdF ts (IntKind.wrap IntKind.i64 ask)) == true) = false → false = true)) ∧ (((goodB (Array.extract (agdT gs go gn) (0 : Nat) (64)) ask == gdF ts (IntKind.wrap IntKind.i64 ask)) == true) = false → false = true)) ∧ (decide (nV (slF (agdT gs go gn) ask) = (0 : Nat)) = false → (Array.size (agdT gs go gn) = (448 : Nat) ∧ True) ∧ (Array.size (putAt zW (0 : Nat) (Array.toList (agedW gs go gn))) = (448 : Nat) ∧ True) ∧ (SW (agdT gs go gn) (putAt zW (0 : Nat) (Array.toList (agedW gs go gn))) ∧ TbOk (agdT gs go gn) ∧ True) ∧ (Array.size (agdT gs go gn) = (448 : Nat) ∧ True) ∧ (Array.size (putAt zW (0 : Nat) (Array.toList (agedW gs go gn))) = (448 : Nat) ∧ True) ∧ (SW (agdT gs go gn) (putAt zW (0 : Nat) (Array.toList (agedW gs go gn))) ∧ TbOk (agdT gs go gn) ∧ True) ∧ (64 ≤ Array.size (agdT gs go gn) ∧ True) ∧ (BkOk (Array.extract (agdT gs go gn) (0 : Nat) (64)) ∧ ((0 : Int) ≤ ask ∧ ask < (4294967296 : Int)) ∧ True) ∧ (Array.size (putAt zW (0 : Nat) (Array.toList (agedW gs go gn))) = (448 : Nat) ∧ True) ∧ (SW ts (putAt zW (0 : Nat) (Array.toList (agedW gs go gn))) ∧ TbOk ts ∧ True) ∧ (((goodB (Array.extract (agdT gs go gn) (0 : Nat) (64)) ask == gdF ts (IntKind.wrap IntKind.i64 ask)) == true) = true → (Array.size (putAt zW (0 : Nat) (Array.toList (agedW gs go gn))) = (448 : Nat) ∧ True) ∧ (SW ts (putAt zW (0 : Nat) (Array.toList (agedW gs go gn))) ∧ TbOk ts ∧ True) ∧ (((((0 : Int) == (0 : Int)) == gdF ts (IntKind.wrap IntKind.i64 ask)) == true) = true → (false = true → (false = true → true = true) ∧ (false = false → false = true)) ∧ (false = false → true = true)) ∧ (((((0 : Int) == (0 : Int)) == gdF ts (IntKind.wrap IntKind.i64 ask)) == true) = false → false = true)) ∧ (((goodB (Array.extract (agdT gs go gn) (0 : Nat) (64)) ask == gdF ts (IntKind.wrap IntKind.i64 ask)) == true) = false → false = true))) ∧ (gdF (agdT gs go gn) ask = false → (Array.size (agdT gs go gn) = (448 : Nat) ∧ True) ∧ (Array.size (putAt zW (0 : Nat) (Array.toList (agedW gs go gn))) = (448 : Nat) ∧ True) ∧ (SW (agdT gs go gn) (putAt zW (0 : Nat) (Array.toList (agedW gs go gn))) ∧ TbOk (agdT gs go gn) ∧ True) ∧ (Array.size (agdT gs go gn) = (448 : Nat) ∧ True) ∧ (Array.size (putAt zW (0 : Nat) (Array.toList (agedW gs go gn))) = (448 : Nat) ∧ True) ∧ (SW (agdT gs go gn) (putAt zW (0 : Nat) (Array.toList (agedW gs go gn))) ∧ TbOk (agdT gs go gn) ∧ True) ∧ (64 ≤ Array.size (agdT gs go gn) ∧ True) ∧ (BkOk (Array.extract (agdT gs go gn) (0 : Nat) (64)) ∧ ((0 : Int) ≤ ask ∧ ask < (4294967296 : Int)) ∧ True) ∧ (Array.size (putAt zW (0 : Nat) (Array.toList (agedW gs go gn))) = (448 : Nat) ∧ True) ∧ (SW ts (putAt zW (0 : Nat) (Array.toList (agedW gs go gn))) ∧ TbOk ts ∧ True) ∧ (((goodB (Array.extract (agdT gs go gn) (0 : Nat) (64)) ask == gdF ts (IntKind.wrap IntKind.i64 ask)) == true) = true → (Array.size (putAt zW (0 : Nat) (Array.toList (agedW gs go gn))) = (448 : Nat) ∧ True) ∧ (SW ts (putAt zW (0 : Nat) (Array.toList (agedW gs go gn))) ∧ TbOk ts ∧ True) ∧ (((((4 : Int) == (0 : Int)) == gdF ts (IntKind.wrap IntKind.i64 ask)) == true) = true → (true = true → (true = true → true = true) ∧ (true = false → false = true)) ∧ (true = false → true = true)) ∧ (((((4 : Int) == (0 : Int)) == gdF ts (IntKind.wrap IntKind.i64 ask)) == true) = false → false = true)) ∧ (((goodB (Array.extract (agdT gs go gn) (0 : Nat) (64)) ask == gdF ts (IntKind.wrap IntKind.i64 ask)) == true) = false → false = true)))) ∧ (true = false → true = true)) := by kernel_rfl
theorem wz1 (ts : Array Value) (ask : Int) : (run (EWz ts) 1000 0 [callFr 3 Tryd.f3.ntmps [.s (.c (.f .e0)), .s (.c (.f .e0)), u32 ask] (Tryd.f3.body.getD .skip)] e0M).vc (isB true) (fun _ _ => False) =
    ((true = true → ((64 : Nat) = (64 : Nat) ∧ 64 ≤ (448 : Nat) ∧ True) ∧ ((448 : Nat) = (448 : Nat) ∧ (448 : Nat) = (448 : Nat) ∧ True) ∧ ((448 : Nat) = (448 : Nat) ∧ (448 : Nat) = (448 : Nat) ∧ True) ∧ ((448 : Nat) = (448 : Nat) ∧ True) ∧ ((448 : Nat) = (448 : Nat) ∧ True) ∧ ((448 : Nat) = (448 : Nat) ∧ (448 : Nat) = (448 : Nat) ∧ True) ∧ ((448 : Nat) = (448 : Nat) ∧ (448 : Nat) = (448 : Nat) ∧ True) ∧ ((448 : Nat) = (448 : Nat) ∧ True) ∧ (TbOk (agdT #[] (0 : Nat) (0 : Nat)) ∧ ((0 : Int) ≤ ask ∧ ask < (4294967296 : Int)) ∧ True) ∧ (gdF (agdT #[] (0 : Nat) (0 : Nat)) ask = true → (decide (nV (slF (agdT #[] (0 : Nat) (0 : Nat)) ask) = (0 : Nat)) = true → ((448 : Nat) = (448 : Nat) ∧ True) ∧ ((448 : Nat) = (448 : Nat) ∧ True) ∧ (SW (agdT #[] (0 : Nat) (0 : Nat)) (putAt zW (0 : Nat) (Array.toList zB)) ∧ TbOk (agdT #[] (0 : Nat) (0 : Nat)) ∧ True) ∧ ((448 : Nat) = (448 : Nat) ∧ True) ∧ ((448 : Nat) = (448 : Nat) ∧ True) ∧ (SW (agdT #[] (0 : Nat) (0 : Nat)) (putAt zW (0 : Nat) (Array.toList zB)) ∧ TbOk (agdT #[] (0 : Nat) (0 : Nat)) ∧ True) ∧ (64 ≤ (448 : Nat) ∧ True) ∧ (BkOk (Array.extract (agdT #[] (0 : Nat) (0 : Nat)) (0 : Nat) (64)) ∧ ((0 : Int) ≤ ask ∧ ask < (4294967296 : Int)) ∧ True) ∧ ((448 : Nat) = (448 : Nat) ∧ True) ∧ (SW ts (putAt zW (0 : Nat) (Array.toList zB)) ∧ TbOk ts ∧ True) ∧ (((goodB (Array.extract (agdT #[] (0 : Nat) (0 : Nat)) (0 : Nat) (64)) ask == gdF ts (IntKind.wrap IntKind.i64 ask)) == true) = true → ((448 : Nat) = (448 : Nat) ∧ True) ∧ (SW ts (putAt zW (0 : Nat) (Array.toList zB)) ∧ TbOk ts ∧ True) ∧ (((((0 : Int) == (0 : Int)) == gdF ts (IntKind.wrap IntKind.i64 ask)) == true) = true → (false = true → (false = true → true = true) ∧ (false = false → false = true)) ∧ (false = false → true = true)) ∧ (((((0 : Int) == (0 : Int)) == gdF ts (IntKind.wrap IntKind.i64 ask)) == true) = false → false = true)) ∧ (((goodB (Array.extract (agdT #[] (0 : Nat) (0 : Nat)) (0 : Nat) (64)) ask == gdF ts (IntKind.wrap IntKind.i64 ask)) == true) = false → false = true)) ∧ (decide (nV (slF (agdT #[] (0 : Nat) (0 : Nat)) ask) = (0 : Nat)) = false → ((448 : Nat) = (448 : Nat) ∧ True) ∧ ((448 : Nat) = (448 : Nat) ∧ True) ∧ (SW (agdT #[] (0 : Nat) (0 : Nat)) (putAt zW (0 : Nat) (Array.toList zB)) ∧ TbOk (agdT #[] (0 : Nat) (0 : Nat)) ∧ True) ∧ ((448 : Nat) = (448 : Nat) ∧ True) ∧ ((448 : Nat) = (448 : Nat) ∧ True) ∧ (SW (agdT #[] (0 : Nat) (0 : Nat)) (putAt zW (0 : Nat) (Array.toList zB)) ∧ TbOk (agdT #[] (0 : Nat) (0 : Nat)) ∧ True) ∧ (64 ≤ (448 : Nat) ∧ True) ∧ (BkOk (Array.extract (agdT #[] (0 : Nat) (0 : Nat)) (0 : Nat) (64)) ∧ ((0 : Int) ≤ ask ∧ ask < (4294967296 : Int)) ∧ True) ∧ ((448 : Nat) = (448 : Nat) ∧ True) ∧ (SW ts (putAt zW (0 : Nat) (Array.toList zB)) ∧ TbOk ts ∧ True) ∧ (((goodB (Array.extract (agdT #[] (0 : Nat) (0 : Nat)) (0 : Nat) (64)) ask == gdF ts (IntKind.wrap IntKind.i64 ask)) == true) = true → ((448 : Nat) = (448 : Nat) ∧ True) ∧ (SW ts (putAt zW (0 : Nat) (Array.toList zB)) ∧ TbOk ts ∧ True) ∧ (((((0 : Int) == (0 : Int)) == gdF ts (IntKind.wrap IntKind.i64 ask)) == true) = true → (false = true → (false = true → true = true) ∧ (false = false → false = true)) ∧ (false = false → true = true)) ∧ (((((0 : Int) == (0 : Int)) == gdF ts (IntKind.wrap IntKind.i64 ask)) == true) = false → false = true)) ∧ (((goodB (Array.extract (agdT #[] (0 : Nat) (0 : Nat)) (0 : Nat) (64)) ask == gdF ts (IntKind.wrap IntKind.i64 ask)) == true) = false → false = true))) ∧ (gdF (agdT #[] (0 : Nat) (0 : Nat)) ask = false → ((448 : Nat) = (448 : Nat) ∧ True) ∧ ((448 : Nat) = (448 : Nat) ∧ True) ∧ (SW (agdT #[] (0 : Nat) (0 : Nat)) (putAt zW (0 : Nat) (Array.toList zB)) ∧ TbOk (agdT #[] (0 : Nat) (0 : Nat)) ∧ True) ∧ ((448 : Nat) = (448 : Nat) ∧ True) ∧ ((448 : Nat) = (448 : Nat) ∧ True) ∧ (SW (agdT #[] (0 : Nat) (0 : Nat)) (putAt zW (0 : Nat) (Array.toList zB)) ∧ TbOk (agdT #[] (0 : Nat) (0 : Nat)) ∧ True) ∧ (64 ≤ (448 : Nat) ∧ True) ∧ (BkOk (Array.extract (agdT #[] (0 : Nat) (0 : Nat)) (0 : Nat) (64)) ∧ ((0 : Int) ≤ ask ∧ ask < (4294967296 : Int)) ∧ True) ∧ ((448 : Nat) = (448 : Nat) ∧ True) ∧ (SW ts (putAt zW (0 : Nat) (Array.toList zB)) ∧ TbOk ts ∧ True) ∧ (((goodB (Array.extract (agdT #[] (0 : Nat) (0 : Nat)) (0 : Nat) (64)) ask == gdF ts (IntKind.wrap IntKind.i64 ask)) == true) = true → ((448 : Nat) = (448 : Nat) ∧ True) ∧ (SW ts (putAt zW (0 : Nat) (Array.toList zB)) ∧ TbOk ts ∧ True) ∧ (((((4 : Int) == (0 : Int)) == gdF ts (IntKind.wrap IntKind.i64 ask)) == true) = true → (true = true → (true = true → true = true) ∧ (true = false → false = true)) ∧ (true = false → true = true)) ∧ (((((4 : Int) == (0 : Int)) == gdF ts (IntKind.wrap IntKind.i64 ask)) == true) = false → false = true)) ∧ (((goodB (Array.extract (agdT #[] (0 : Nat) (0 : Nat)) (0 : Nat) (64)) ask == gdF ts (IntKind.wrap IntKind.i64 ask)) == true) = false → false = true))) ∧ (true = false → true = true)) := by kernel_rfl
end Go.Proofs.YtjjeahnbppmigaaDoor
/- Of TablePlays: what is learned behind an act: the two tables, when more is known; acts keep the program's table in order. No condition. -/
namespace Go.Proofs.YtjjeahnbppmigaaDoor
set_option maxRecDepth 100000
set_option linter.unusedSimpArgs false
set_option linter.unusedVariables false
/-- More is known. -/
def More (Γ Γ' : Gh) : Prop := ∀ g cs, @GlP Γ g cs → @GlP Γ' g cs
section
variable {Γ Γ' : Gh} (hm : More Γ Γ')
include hm
theorem SlV.more {v : Value} (h : @SlV Γ v) : @SlV Γ' v := by
  obtain ⟨r, h | ⟨b, o, n, c, cs, e, h1, h2⟩⟩ := h
  · exact ⟨r, .inl h⟩
  · exact ⟨r, .inr ⟨b, o, n, c, cs, e, hm _ _ h1, h2⟩⟩
theorem SlQ.more {v : Value} {r : Array Value} (h : @SlQ Γ v r) : @SlQ Γ' v r := by
  rcases h with h | ⟨b, o, n, c, cs, e, h1, h2⟩
  · exact .inl h
  · exact .inr ⟨b, o, n, c, cs, e, hm _ _ h1, h2⟩
theorem SR.more {p d : Value} (h : @SR Γ p d) : @SR Γ' p d := by
  obtain ⟨row, h1, h2⟩ := h
  exact ⟨row, SlQ.more hm h1, h2.imp id (SlQ.more hm)⟩
theorem SW.more {ts ws : Array Value} (h : @SW Γ ts ws) : @SW Γ' ts ws := by
  cases h with
  | mk sz g s r v z => exact @SW.mk Γ' ts ws sz g s r (fun i hi hk => by
    obtain ⟨v, e, h⟩ := v i hi hk
    exact ⟨v, e, SR.more hm h⟩) z
theorem SlX.more {v : Value} (h : @SlX Γ v) : @SlX Γ' v := by
  rcases h with h | h
  · exact .inl h
  · exact .inr (SlV.more hm h)
theorem RgOk.more {ts : Array Value} {p : Nat} (h : @RgOk Γ ts p) : @RgOk Γ' ts p := by
  cases h with
  | mk u q r ro l c hu hq hc => exact @RgOk.mk Γ' ts p u q (SlV.more hm r) ro l c hu hq hc
theorem TbOk.more {ts : Array Value} (h : @TbOk Γ ts) : @TbOk Γ' ts := by
  cases h with
  | mk sz bk rg => exact @TbOk.mk Γ' ts sz bk fun i hi => RgOk.more hm (rg i hi)
theorem TI.more {ts : Array Value} (h : @TI Γ ts) : @TI Γ' ts := by
  cases h with
  | mk ok fo us => exact @TI.mk Γ' ts (TbOk.more hm ok) fo us
theorem AcAt.more {ds : Array Value} {p : Nat} (h : @AcAt Γ ds p) : @AcAt Γ' ds p := by
  cases h with
  | mk d a b u q ro rs r l c ha hb => exact @AcAt.mk Γ' ds p d a b u q ro rs (fun k => SlX.more hm (r k)) l c ha hb
theorem AcOk.more {ds : Array Value} {off n : Nat} (h : @AcOk Γ ds off n) : @AcOk Γ' ds off n := by
  cases h with
  | mk sz at' => exact @AcOk.mk Γ' ds off n sz fun i hi => AcAt.more hm (at' i hi)
end
theorem wu_in (x : Int) : inH (wu x) := by
  unfold wu inH IntKind.wrap
  simp [IntKind.bits, IntKind.signed]
  omega
theorem ti_dropT [Gh] {ts : Array Value} (hi : TI ts) (h : Int) : TI (dropT ts h) ∧ Acts ts (dropT ts h) h (getX5 ts h) 0 := by
  cases hg : gdF ts h with
  | true =>
    have e1 : dropT ts h = drT ts h := by unfold dropT; rw [hg]; rfl
    have e2 : getX5 ts h = 0 := by unfold getX5; rw [hg]; rfl
    rw [e1, e2]
    exact ti_drop hi hg
  | false =>
    have e1 : dropT ts h = ts := by unfold dropT; rw [hg]; rfl
    rw [e1]
    exact ⟨hi, acts_no hi.ok _ _ _⟩
theorem ti_setNl [Gh] {ts : Array Value} (hi : TI ts) {h q l c0 c1 c2 c3 c4 c5 c6 c7 : Int} (hcc : inH c0 ∧ inH c1 ∧ inH c2 ∧ inH c3 ∧ inH c4 ∧ inH c5 ∧ inH c6 ∧ inH c7) (d : Int) : TI (setNl ts h q l c0 c1 c2 c3 c4 c5 c6 c7) ∧ Acts ts (setNl ts h q l c0 c1 c2 c3 c4 c5 c6 c7) h (setE ts h q (decide (l = 0))) d := by
  by_cases e : setE ts h q (decide (l = 0)) = 0
  · have hg : gdF ts h = true := by
      cases hg : gdF ts h with
      | true => rfl
      | false => unfold setE at e; rw [hg] at e; cases e
    have hq : 0 ≤ q ∧ q ≤ 64 := by
      unfold setE at e
      rw [if_pos hg] at e
      split at e
      · rename_i k; exact ⟨k.1, k.2.1⟩
      · cases e
    have e1 : setNl ts h q l c0 c1 c2 c3 c4 c5 c6 c7 = setP ts h q (.slice none 0 0) l c0 c1 c2 c3 c4 c5 c6 c7 := by unfold setNl; rw [if_pos e]
    rw [e1, e]
    exact ti_set hi hg hq slv_nil hcc d
  · have e1 : setNl ts h q l c0 c1 c2 c3 c4 c5 c6 c7 = ts := by unfold setNl; rw [if_neg e]
    rw [e1]
    exact ⟨hi, acts_no hi.ok _ _ _⟩
theorem ti_raT [Gh] {ts : Array Value} (hi : TI ts) {h u : Int} (hu : inH u) (d : Int) : TI (raT ts h u) ∧ Acts ts (raT ts h u) h (raE ts h u) d := by
  by_cases e : raE ts h u = 0
  · have e1 : raT ts h u = raS ts h u := by unfold raT; rw [if_pos e]
    rw [e1, e]
    exact ti_raise hi e hu d
  · have e1 : raT ts h u = ts := by unfold raT; rw [if_neg e]
    rw [e1]
    exact ⟨hi, acts_no hi.ok _ _ _⟩
theorem ti_newT [Gh] {ts : Array Value} (hi : TI ts) {u q : Int} (hu : inH u) (h d : Int) : TI (newT ts u q) ∧ Acts ts (newT ts u q) h (newE ts u q) d := by
  by_cases e : newE ts u q = 0
  · have e1 : newT ts u q = nwT ts u q := by unfold newT; rw [if_pos e]
    rw [e1, e]
    exact ti_new hi e hu h d
  · have e1 : newT ts u q = ts := by unfold newT; rw [if_neg e]
    rw [e1]
    exact ⟨hi, acts_no hi.ok _ _ _⟩
/-- A row of pairs of one's own, from here on known. -/
theorem learn_sl [Gh] {k n c : Nat} {cs cells : Array Value} {R : Ren} (hg : GlP k cells.toList) (ho : (SA.pop cs).okM R cells) (hs : cs.size = n * 2) (hp : PrOk cs 0 n) (h1 : 1 ≤ n) (hc : n ≤ c) : SlV (.slice (some ⟨k, 0, none⟩) n c) := by
  obtain ⟨o1, o2⟩ : cells.toList.take cs.size = cs.toList ∧ ∀ v ∈ cells.toList, v.oneCell' = true := ho
  have hlen : cs.size ≤ cells.size := by
    have := congrArg List.length o1
    simp only [List.length_take, Array.length_toList] at this
    omega
  have eq : ∀ j, j < n * 2 → cells.toList.toArray[0 + j]? = cs[0 + j]? := fun j hj => by
    rw [Nat.zero_add, List.getElem?_toArray, ← Array.getElem?_toList (xs := cs), ← o1, List.getElem?_take_of_lt (by omega)]
  have ii : ∀ j, j < n * 2 → IsInt .i64 cs (0 + j) → IsInt .i64 cells.toList.toArray (0 + j) := fun j hj h => by
    unfold IsInt intAt at *
    rw [eq j hj]; exact h
  exact ⟨_, .inr ⟨k, 0, n, c, cells.toList, rfl, hg, ⟨by simp only [List.size_toArray, Array.length_toList]; omega, hp.le, fun i hi => ii (i * 2) (by omega) (hp.a i hi), fun i hi => ii (i * 2 + 1) (by omega) (hp.b i hi)⟩, h1, hc, rfl⟩⟩
/-- And it has what the document's has. -/
theorem learn_sr [Gh] {k n c : Nat} {row cells : Array Value} {R : Ren} {v : Value} (hg : GlP k cells.toList) (ho : (SA.pop row).okM R cells) (hv : SlQ v row) (hn : n = nV v) (h1 : 1 ≤ n) (hc : n ≤ c) : SR (.slice (some ⟨k, 0, none⟩) n c) v := by
  obtain ⟨hp, hs⟩ := hv.pr
  rw [← hn] at hp hs
  have ho' := ho
  obtain ⟨o1, o2⟩ : cells.toList.take row.size = row.toList ∧ ∀ v ∈ cells.toList, v.oneCell' = true := ho
  have hlen : row.size ≤ cells.size := by
    have := congrArg List.length o1
    simp only [List.length_take, Array.length_toList] at this
    omega
  have eq : ∀ j, j < n * 2 → cells.toList.toArray[0 + j]? = row[0 + j]? := fun j hj => by
    rw [Nat.zero_add, List.getElem?_toArray, ← Array.getElem?_toList (xs := row), ← o1, List.getElem?_take_of_lt (by omega)]
  have ii : ∀ j, j < n * 2 → IsInt .i64 row (0 + j) → IsInt .i64 cells.toList.toArray (0 + j) := fun j hj h => by
    unfold IsInt intAt at *
    rw [eq j hj]; exact h
  have hz : n * 2 ≤ cells.toList.toArray.size := by simp only [List.size_toArray, Array.length_toList]; omega
  have er : row = cells.toList.toArray.extract 0 (0 + n * 2) := by
    apply Array.ext_getElem?
    intro j
    by_cases hj : j < n * 2
    · rw [ext_get (by omega) (by omega)]
      have := eq j hj
      rw [Nat.zero_add] at this
      rw [Nat.zero_add, this]
    · rw [Array.getElem?_eq_none (by omega), Array.getElem?_eq_none (by rw [ext_size (by omega)]; omega)]
  exact ⟨row, .inr ⟨k, 0, n, c, cells.toList, rfl, hg, ⟨by omega, hp.le, fun i hi => ii (i * 2) (by omega) (hp.a i hi), fun i hi => ii (i * 2 + 1) (by omega) (hp.b i hi)⟩, h1, hc, er⟩, .inr hv⟩
end Go.Proofs.YtjjeahnbppmigaaDoor
/- Of TablePlays: what each act does to both tables. No condition. -/
namespace Go.Proofs.YtjjeahnbppmigaaDoor
set_option linter.unusedSectionVars false
variable [Gh]
set_option maxRecDepth 100000
set_option linter.unusedSimpArgs false
set_option linter.unusedVariables false
omit [Gh] in
theorem an_in (x : Int) : inH (an32 x) := by
  unfold an32
  rw [ari_and]
  have h : (BitVec.ofInt IntKind.i64.bits x &&& BitVec.ofInt IntKind.i64.bits 4294967295).toNat ≤ 4294967295 := by
    rw [BitVec.toNat_and]
    exact Nat.and_le_right
  rw [i64_in' (by omega) (by omega)]
  exact ⟨by omega, by omega⟩
omit [Gh] in
theorem wu_id {x : Int} (h : inH x) : wu x = x := u32_in h.1 h.2
section
variable {ts ws ds : Array Value} {off : Nat} {i : Int}
theorem nW_eq (hb : TbOk ts) {k : Nat} (h : inH (aC ds off i k)) : nW ts ds off i k = nA ts ds off i k := by
  unfold nW
  exact u32_in (nmA_in hb h).1 (nmA_in hb h).2
omit [Gh] in
theorem eW_eq (h : nW ts ds off i 1 = nA ts ds off i 1) (b : Bool) : eW ts ds off i b = eA ts ds off i b := by unfold eW eA; rw [h]
omit [Gh] in
def aN (ds : Array Value) (off : Nat) (i : Int) (k : Nat) : Int := an32 (aC ds off i k)
omit [Gh] in
theorem aN_in (k : Nat) : inH (aN ds off i k) := an_in _
omit [Gh] in
theorem sNl_eq (h : nW ts ds off i 1 = nA ts ds off i 1) : sNl ts ds off i = setNl ts (nA ts ds off i 1) (aC ds off i 4) (aC ds off i 6) (aN ds off i 7) (aN ds off i 8) (aN ds off i 9) (aN ds off i 10) (aN ds off i 11) (aN ds off i 12) (aN ds off i 13) (aN ds off i 14) := by
  unfold sNl aN
  rw [h, wu_id (an_in _), wu_id (an_in _), wu_id (an_in _), wu_id (an_in _), wu_id (an_in _), wu_id (an_in _), wu_id (an_in _), wu_id (an_in _)]
omit [Gh] in
theorem sP0_eq (h : nW ts ds off i 1 = nA ts ds off i 1) : sP0 ts ds off i = setP ts (nA ts ds off i 1) (aC ds off i 4) (.slice none 0 0) (aC ds off i 6) (aN ds off i 7) (aN ds off i 8) (aN ds off i 9) (aN ds off i 10) (aN ds off i 11) (aN ds off i 12) (aN ds off i 13) (aN ds off i 14) := by
  unfold sP0 aN
  rw [h, wu_id (an_in _), wu_id (an_in _), wu_id (an_in _), wu_id (an_in _), wu_id (an_in _), wu_id (an_in _), wu_id (an_in _), wu_id (an_in _)]
theorem sDW_eq : sDW ts ws ds off i = sdW ts ws (nA ts ds off i 1) (aC ds off i 4) (aV ds off i) (aC ds off i 6) (aN ds off i 7) (aN ds off i 8) (aN ds off i 9) (aN ds off i 10) (aN ds off i 11) (aN ds off i 12) (aN ds off i 13) (aN ds off i 14) := rfl
omit [Gh] in
theorem aN_all : inH (aN ds off i 7) ∧ inH (aN ds off i 8) ∧ inH (aN ds off i 9) ∧ inH (aN ds off i 10) ∧ inH (aN ds off i 11) ∧ inH (aN ds off i 12) ∧ inH (aN ds off i 13) ∧ inH (aN ds off i 14) := ⟨aN_in 7, aN_in 8, aN_in 9, aN_in 10, aN_in 11, aN_in 12, aN_in 13, aN_in 14⟩
omit [Gh] in
theorem set_0 {h q : Int} {b : Bool} (e : setE ts h q b = 0) : gdF ts h = true ∧ (0 ≤ q ∧ q ≤ 64) ∧ b = true := by
  unfold setE at e
  split at e
  · rename_i g
    split at e
    · rename_i k; exact ⟨g, ⟨k.1, k.2.1⟩, k.2.2⟩
    · exact absurd e (by decide)
  · exact absurd e (by decide)
theorem sdW_yes {h q l c0 c1 c2 c3 c4 c5 c6 c7 : Int} {v : Value} (e : setE ts h q (mayE (rowK v) 0 (nV v) l) = 0) : sdW ts ws h q v l c0 c1 c2 c3 c4 c5 c6 c7 = sdP ts ws h q v l c0 c1 c2 c3 c4 c5 c6 c7 := by unfold sdW; rw [if_pos e]
theorem sdW_no {h q l c0 c1 c2 c3 c4 c5 c6 c7 : Int} {v : Value} (e : ¬ setE ts h q (mayE (rowK v) 0 (nV v) l) = 0) : sdW ts ws h q v l c0 c1 c2 c3 c4 c5 c6 c7 = ws := by unfold sdW; rw [if_neg e]
theorem may_none {v : Value} (hn : nV v = 0) (l : Int) : mayE (rowK v) 0 (nV v) l = decide (l = 0) := by rw [hn]; exact may_zero _ _ _
theorem sw_nil (w : SW ts ws) (hb : TbOk ts) {h q l c0 c1 c2 c3 c4 c5 c6 c7 : Int} {v : Value} (hx : SlX v) (hn : nV v = 0) (hcc : inH c0 ∧ inH c1 ∧ inH c2 ∧ inH c3 ∧ inH c4 ∧ inH c5 ∧ inH c6 ∧ inH c7) : SW (setNl ts h q l c0 c1 c2 c3 c4 c5 c6 c7) (sdW ts ws h q v l c0 c1 c2 c3 c4 c5 c6 c7) := by
  have em := may_none hn l
  by_cases e : setE ts h q (decide (l = 0)) = 0
  · obtain ⟨g, hq, _⟩ := set_0 e
    obtain ⟨a, c, ev⟩ := hx.nil hn
    rw [sdW_yes (by rw [em]; exact e)]
    unfold setNl
    rw [if_pos e]
    exact w.set hb g hq slv_nil ⟨#[], .inl ⟨rfl, rfl⟩, .inl ⟨a, c, ev, rfl⟩⟩ hcc
  · rw [sdW_no (by rw [em]; exact e)]
    unfold setNl
    rw [if_neg e]
    exact w
theorem sw_raise (w : SW ts ws) (hb : TbOk ts) (h u : Int) : SW (raT ts h u) (raW ts ws h u) := by
  unfold raT raW
  by_cases e : raE ts h u = 0
  · rw [if_pos e, if_pos e]
    have k : ¬ (gdF ts h = false ∨ (u ≠ 0 ∧ gdF ts u = false)) := fun k => by
      unfold raE at e
      rw [if_pos k] at e
      exact absurd e (by decide)
    have hg : gdF ts h = true := by
      cases c : gdF ts h with
      | true => rfl
      | false => exact absurd (.inl c) k
    have hu : u = 0 ∨ gdF ts u = true := by
      by_cases z : u = 0
      · exact .inl z
      · right
        cases c : gdF ts u with
        | true => rfl
        | false => exact absurd (.inr ⟨z, c⟩) k
    exact w.raise hb hg hu
  · rw [if_neg e, if_neg e]; exact w
theorem sw_new (w : SW ts ws) (hv : TI ts) {u q : Int} (hu : inH u) : SW (newT ts u q) (nwW ts ws u q) := by
  by_cases e : newE ts u q = 0
  · have := w.new hv hu e
    unfold newT
    rw [if_pos e]
    exact this
  · unfold newT nwW
    rw [if_neg e, if_neg e]
    exact w
theorem newI_in (hb : TbOk ts) (u q : Int) : inH (newI ts u q) := by
  unfold newI
  split
  · exact (iss_f hb).1
  · exact ⟨by decide, by decide⟩
end
section
variable {off num : Nat} {ds : Array Value} {ty : TypeId} {ask : Int} {ts ws ks vs : Array Value}
def PA (off num : Nat) (ds : Array Value) (ty : TypeId) (ask : Int) (i : Nat) (ts ws ks vs : Array Value) : Prop := Good Tryd.prog (isB true) 2 (wA_F off num ds ty ask (i : Int) ts ws ks vs) (wA_M off num ds ty ask (i : Int) ts ws ks vs)
def PB (off num : Nat) (ds : Array Value) (ty : TypeId) (ask : Int) (i : Nat) (ts ws ks vs : Array Value) : Prop := Good Tryd.prog (isB true) 2 (wB_F off num ds ty ask (i : Int) ts ws ks vs) (wB_M off num ds ty ask (i : Int) ts ws ks vs)
structure WS (ts ws ks vs : Array Value) : Prop where
  ti : TI ts
  sw : SW ts ws
  kb : TbOk ks
  kw : SW ks vs
theorem EW_ok (ts : Array Value) : EnvOk (EW ts) := EnvOk.with E0_ok _ _ (conW_ok ts)
theorem EWz_ok (ts : Array Value) : EnvOk (EWz ts) := EnvOk.with E0_ok _ _ (conW_ok ts)
theorem wB_ok (s : WS ts ws ks vs) {i : Nat} (hn : num ≤ 150) (hin : i < num) (hA : ∀ ks' vs', WS ts ws ks' vs' → PA off num ds ty ask (i + 1) ts ws ks' vs') : PB off num ds ty ask i ts ws ks vs := by
  have hs := s.ti.ok.sz
  have hz := s.sw.sz
  have hs' := s.kb.sz
  have hz' := s.kw.sz
  have ei : ari .add .i64 (i : Int) 1 = ((i + 1 : Nat) : Int) := by rw [ari_add, i64_in' (by omega) (by omega)]; omega
  refine past_vc (EW_ok ts) 1000 (wb off num ds ty ask (i : Int) ts ws ks vs (fun i' t' w' k' v' => i' = ((i + 1 : Nat) : Int) ∧ t' = ts ∧ w' = ws ∧ WS ts ws k' v')) ?_ (fun _ _ h => h) (fun fs m hb => wA_good (fun i' t' w' k' v' ⟨e1, e2, e3, e4⟩ => by rw [e1, e2, e3]; exact hA k' v' e4) hb)
  have s2 : WS ts ws ts ws := ⟨s.ti, s.sw, s.ti.ok, s.sw⟩
  cases c : ((i : Int) == ari .quo .i64 (num : Int) 2) with
  | true => simp only [c, ei, hs, hz, hs', hz', s2, true_implies, Bool.true_eq_false, Bool.false_eq_true, false_implies, and_true, true_and, wA_d0_ok]
  | false => simp only [c, ei, s, true_implies, Bool.true_eq_false, Bool.false_eq_true, false_implies, and_true, true_and, wA_d0_ok]
theorem wA_end (s : WS ts ws ks vs) (ha : inH ask) (hn : num ≤ 150) : PA off num ds ty ask num ts ws ks vs := by
  have hb := s.ti.ok
  have hs := hb.sz
  have w := s.sw
  have hz := w.sz
  have kb := s.kb
  have kw := s.kw
  have hs' := kb.sz
  have hz' := kw.sz
  have hk : BkOk (ts.extract 0 64) := hb.bk
  have h64 : (64 : Nat) ≤ 448 := by decide
  have ha' : 0 ≤ ask ∧ ask < 4294967296 := ha
  have ew := wr_h ha
  have eg : goodB (ts.extract 0 64) ask = gdF ts ask := rfl
  refine past_vc (EW_ok ts) 2000 (wa off num ds ty ask (num : Int) ts ws ks vs (fun _ _ _ _ _ => False) (fun _ _ _ _ _ _ _ _ => False)) ?_ (fun _ _ h => h) (fun fs m hb => ?_)
  · have d : decide ((num : Int) < (num : Int)) = false := decide_eq_false (by omega)
    have e0 : ((0 : Int) == 0) = true := rfl
    have e4 : ((4 : Int) == 0) = false := rfl
    cases g : gdF ts ask with
    | true =>
      cases n : decide (nV (slF ts ask) = 0) with
      | true => simp only [d, g, n, eg, ew, ha', hs, hz, hs', hz', h64, hk, w, hb, kb, kw, e0, e4, beqT, beqF, beq_self_eq_true, true_implies, Bool.true_eq_false, Bool.false_eq_true, false_implies, and_true, true_and]
      | false => simp only [d, g, n, eg, ew, ha', hs, hz, hs', hz', h64, hk, w, hb, kb, kw, e0, e4, beqT, beqF, beq_self_eq_true, true_implies, Bool.true_eq_false, Bool.false_eq_true, false_implies, and_true, true_and]
    | false => simp only [d, g, eg, ew, ha', hs, hz, hs', hz', h64, hk, w, hb, kb, kw, e0, e4, beqT, beqF, beq_self_eq_true, true_implies, Bool.true_eq_false, Bool.false_eq_true, false_implies, and_true, true_and]
  · unfold wX at hb
    split at hb
    · exact wP_good (fun _ _ _ _ _ _ _ _ h => h.elim) hb
    · exact wB_good (fun _ _ _ _ _ h => h.elim) hb
end
end Go.Proofs.YtjjeahnbppmigaaDoor
/- Of TablePlays: the rounds over acts; what is learned behind each; the ways in. No condition. -/
namespace Go.Proofs.YtjjeahnbppmigaaDoor
set_option maxRecDepth 100000
set_option linter.unusedSimpArgs false
set_option linter.unusedVariables false
section
variable {off num : Nat} {ds : Array Value} {ty : TypeId} {ask : Int}
theorem wX_good [Gh] {A : SV → SMem → Prop} {QB : Int → Array Value → Array Value → Array Value → Array Value → Prop} {QP : Int → Array Value → Nat → Nat → Array Value → Array Value → Array Value → Array Value → Prop} {fs : List SFr} {m : SMem}
    (hB : ∀ i t w k v, QB i t w k v → Good Tryd.prog A 2 (wB_F off num ds ty ask i t w k v) (wB_M off num ds ty ask i t w k v)) (hP : ∀ i us o n cs w k v, QP i us o n cs w k v → Good Tryd.prog A 2 (wP_F off num ds ty ask i us o n cs w k v) (wP_M off num ds ty ask i us o n cs w k v))
    (hb : wX off num ds ty ask QB QP fs m) : Good Tryd.prog A 2 fs m := by
  unfold wX at hb
  split at hb
  · exact wP_good hP hb
  · exact wB_good hB hb
theorem wA_step (Γ : Gh) (ts ws ks vs : Array Value) (i : Nat) (hn : num ≤ 150) (hin : i < num) (hac : @AcOk Γ ds off num) (h80 : nV (valAt ds (off + i * 15 + 5)) ≤ 80) (s : @WS Γ ts ws ks vs)
    (next : ∀ (Γ' : Gh) (t w k v : Array Value), @AcOk Γ' ds off num → @WS Γ' t w k v → @PA Γ' off num ds ty ask (i + 1) t w k v) : @PA Γ off num ds ty ask i ts ws ks vs := by
  have a := hac.at' i hin
  have hx : SlX (aV ds off (i : Int)) := by unfold aV; rw [Int.toNat_natCast]; exact a.r h80
  have hi := s.ti
  have skb := s.kb
  have skw := s.kw
  have hb := hi.ok
  have hs := hb.sz
  have w := s.sw
  have hz := w.sz
  have hB : ∀ t w, TI t → SW t w → PB off num ds ty ask i t w ks vs := fun t w h1 h2 => wB_ok ⟨h1, h2, s.kb, s.kw⟩ hn hin fun k v h => next Γ t w k v hac h
  have A1 : inH (aC ds off (i : Int) 1) := by unfold aC; rw [Int.toNat_natCast]; exact a.ha
  have A2 : inH (aC ds off (i : Int) 2) := by unfold aC; rw [Int.toNat_natCast]; exact a.hb
  have n1 := nW_eq hb A1
  have n2 := nW_eq hb A2
  have x1 : inH (nA ts ds off (i : Int) 1) := nmA_in hb A1
  have x2 : inH (nA ts ds off (i : Int) 2) := nmA_in hb A2
  have eE := eW_eq n1
  refine past_vc (EW_ok ts) 2000 (wa off num ds ty ask (i : Int) ts ws ks vs (fun i' t w' k v => i' = (i : Int) ∧ k = ks ∧ v = vs ∧ TI t ∧ SW t w')
    (fun i' us o n cs w' k v => i' = (i : Int) ∧ us = sP0 ts ds off (i : Int) ∧ o = pl (nA ts ds off (i : Int) 1) + 2 ∧ n = nV (aV ds off (i : Int)) ∧ cs = (rowK (aV ds off (i : Int))).extract 0 (0 + nV (aV ds off (i : Int)) * 2) ∧ w' = sDW ts ws ds off (i : Int) ∧ k = ks ∧ v = vs ∧ nV (aV ds off (i : Int)) ≠ 0 ∧ eA ts ds off (i : Int) (mA ds off (i : Int)) = 0)) ?_ (fun _ _ h => h)
    (fun fs m hb => wX_good (fun i' t w' k v ⟨e1, e2, e3, e4, e5⟩ => by rw [e1, e2, e3]; exact hB t w' e4 e5) (fun i' us o n cs w' k v ⟨e1, e2, e3, e4, e5, e6, e7, e8, e9, e10⟩ => ?_) hb)
  · have h1 : (0 : Int) ≤ (i : Int) ∧ (i : Int) < (num : Int) := by omega
    have d : decide ((i : Int) < (num : Int)) = true := decide_eq_true h1.2
    have t0 := a.d; have t1 := a.a; have t2 := a.b; have t3 := a.u; have t4 := a.q; have t5 := a.ro; have t6 := a.l
    have t7 : IsInt .i64 ds (off + i * 15 + 7) := a.c 0 (by decide)
    have t8 : IsInt .i64 ds (off + i * 15 + 8) := a.c 1 (by decide)
    have t9 : IsInt .i64 ds (off + i * 15 + 9) := a.c 2 (by decide)
    have t10 : IsInt .i64 ds (off + i * 15 + 10) := a.c 3 (by decide)
    have t11 : IsInt .i64 ds (off + i * 15 + 11) := a.c 4 (by decide)
    have t12 : IsInt .i64 ds (off + i * 15 + 12) := a.c 5 (by decide)
    have t13 : IsInt .i64 ds (off + i * 15 + 13) := a.c 6 (by decide)
    have t14 : IsInt .i64 ds (off + i * 15 + 14) := a.c 7 (by decide)
    have A1' : 0 ≤ aC ds off (i : Int) 1 ∧ aC ds off (i : Int) 1 < 4294967296 := A1
    have A2' : 0 ≤ aC ds off (i : Int) 2 ∧ aC ds off (i : Int) 2 < 4294967296 := A2
    have X1' : 0 ≤ nA ts ds off (i : Int) 1 ∧ nA ts ds off (i : Int) 1 < 4294967296 := x1
    have X2' : 0 ≤ nA ts ds off (i : Int) 2 ∧ nA ts ds off (i : Int) 2 < 4294967296 := x2
    have hf : FIn ts := ⟨hb, hi.fo⟩
    have wt := w.wt hb
    cases c0 : (intAt ds (off + i * 15) == 0) with
    | true =>
      obtain ⟨d1, _⟩ := ti_dropT hi (nA ts ds off (i : Int) 1)
      obtain ⟨w1, w2⟩ := w.drop hb (nA ts ds off (i : Int) 1)
      have z1 := d1.ok.sz
      have z2 := w1.sz
      simp only [Int.toNat_natCast, h1, d, t0, t1, t2, t3, t4, t5, t6, t7, t8, t9, t10, t11, t12, t13, t14, c0, n1, A1', A2', X1', hs, hz, hb, w, wt, d1, w1, w2, z1, z2, beq_self_eq_true, beqT, beqF, decide_true, true_implies, false_implies, Bool.false_eq_true, Bool.true_eq_false, and_true, true_and, wB_d0_ok]
    | false =>
      cases c1 : (intAt ds (off + i * 15) == 1) with
      | true =>
        have z2 : (sDW ts ws ds off (i : Int)).size = 448 := by
          unfold sDW sdW
          split
          · rename_i e
            obtain ⟨g, _⟩ := set_0 e
            have h32 := (good_f hb g).2.2.1
            unfold sdP
            rw [putAt_size (by show 64 + sl (nA ts ds off (i : Int) 1) * 12 + 12 ≤ _; omega)]
            exact hz
          · exact hz
        by_cases n0 : nV (aV ds off (i : Int)) = 0
        · have c2 : decide (nV (aV ds off (i : Int)) = 0) = true := decide_eq_true n0
          have em : mA ds off (i : Int) = decide (aC ds off (i : Int) 6 = 0) := may_none n0 _
          obtain ⟨s1, _⟩ := ti_setNl hi (h := nA ts ds off (i : Int) 1) (q := aC ds off (i : Int) 4) (l := aC ds off (i : Int) 6) (aN_all (ds := ds) (off := off) (i := (i : Int))) 0
          have s2 := sw_nil w hb (h := nA ts ds off (i : Int) 1) (q := aC ds off (i : Int) 4) (l := aC ds off (i : Int) 6) hx n0 (aN_all (ds := ds) (off := off) (i := (i : Int)))
          rw [← sNl_eq n1] at s1 s2
          rw [← sDW_eq] at s2
          have z1 := s1.ok.sz
          simp only [Int.toNat_natCast, h1, d, t0, t1, t2, t3, t4, t5, t6, t7, t8, t9, t10, t11, t12, t13, t14, c0, c1, c2, n1, em, eE, A1', A2', X1', hs, hz, hb, hx, w, s1, s2, z1, z2, beq_self_eq_true, beqT, beqF, decide_true, true_implies, false_implies, Bool.false_eq_true, Bool.true_eq_false, and_true, true_and, wB_d0_ok]
        · have c2 : decide (nV (aV ds off (i : Int)) = 0) = false := decide_eq_false n0
          have hp := (rowK_ok (hx.row n0)).pr.1
          by_cases e3 : eA ts ds off (i : Int) (mA ds off (i : Int)) = 0
          · have c3 : decide (eA ts ds off (i : Int) (mA ds off (i : Int)) = 0) = true := decide_eq_true e3
            have c4 : ((0 : Int) == eA ts ds off (i : Int) (mA ds off (i : Int))) = true := beq_iff_eq.2 e3.symm
            have z1 : (sP0 ts ds off (i : Int)).size = 448 := by rw [sP0_eq n1]; exact set_sz hb (set_0 e3).1
            simp only [Int.toNat_natCast, h1, d, t0, t1, t2, t3, t4, t5, t6, t7, t8, t9, t10, t11, t12, t13, t14, c0, c1, c2, c3, c4, n1, eE, A1', A2', X1', hs, hz, hb, hx, hp, w, z1, z2, beqT, beqF, decide_true, true_implies, false_implies, Bool.false_eq_true, Bool.true_eq_false, and_true, true_and, wB_d0_ok, wP_d0_ok]
            exact ⟨n0, e3⟩
          · have c3 : decide (eA ts ds off (i : Int) (mA ds off (i : Int)) = 0) = false := decide_eq_false e3
            have ew : sDW ts ws ds off (i : Int) = ws := sdW_no e3
            simp only [Int.toNat_natCast, h1, d, t0, t1, t2, t3, t4, t5, t6, t7, t8, t9, t10, t11, t12, t13, t14, c0, c1, c2, c3, n1, eE, ew, A1', A2', X1', hs, hz, hb, hx, hp, hi, w, beq_self_eq_true, beqT, beqF, decide_true, true_implies, false_implies, Bool.false_eq_true, Bool.true_eq_false, and_true, true_and, wB_d0_ok]
      | false =>
        cases c2 : (intAt ds (off + i * 15) == 2) with
        | true =>
          obtain ⟨d1, _⟩ := ti_raT hi (h := nA ts ds off (i : Int) 1) x2 0
          have w1 := sw_raise w hb (nA ts ds off (i : Int) 1) (nA ts ds off (i : Int) 2)
          have z1 := d1.ok.sz
          have z2 := w1.sz
          simp only [Int.toNat_natCast, h1, d, t0, t1, t2, t3, t4, t5, t6, t7, t8, t9, t10, t11, t12, t13, t14, c0, c1, c2, n1, n2, A1', A2', X1', X2', hs, hz, hb, hf, w, d1, w1, z1, z2, beq_self_eq_true, beqT, beqF, decide_true, true_implies, false_implies, Bool.false_eq_true, Bool.true_eq_false, and_true, true_and, wB_d0_ok]
        | false =>
          obtain ⟨d1, _⟩ := ti_newT hi (u := nA ts ds off (i : Int) 1) (q := aC ds off (i : Int) 4) x1 0 0
          have w1 := sw_new w hi (u := nA ts ds off (i : Int) 1) (q := aC ds off (i : Int) 4) x1
          have z1 := d1.ok.sz
          have z2 := w1.sz
          have en := wr_h (newI_in hb (nA ts ds off (i : Int) 1) (aC ds off (i : Int) 4))
          simp only [Int.toNat_natCast, h1, d, t0, t1, t2, t3, t4, t5, t6, t7, t8, t9, t10, t11, t12, t13, t14, c0, c1, c2, n1, A1', A2', X1', hs, hz, hb, w, d1, w1, z1, z2, en, beq_self_eq_true, Bool.not_true, beqT, beqF, decide_true, true_implies, false_implies, Bool.false_eq_true, Bool.true_eq_false, and_true, true_and, wB_d0_ok]
  · have hv := rowK_ok (hx.row e9)
    have hsz := hv.pr.2
    have hrow : (rowK (aV ds off (i : Int))).extract 0 (0 + nV (aV ds off (i : Int)) * 2) = rowK (aV ds off (i : Int)) := by
      rw [Nat.zero_add, ← hsz]
      exact Array.extract_size
    have ew : sDW ts ws ds off (i : Int) = sdP ts ws (nA ts ds off (i : Int) 1) (aC ds off (i : Int) 4) (aV ds off (i : Int)) (aC ds off (i : Int) 6) (aN ds off (i : Int) 7) (aN ds off (i : Int) 8) (aN ds off (i : Int) 9) (aN ds off (i : Int) 10) (aN ds off (i : Int) 11) (aN ds off (i : Int) 12) (aN ds off (i : Int) 13) (aN ds off (i : Int) 14) := by
      rw [sDW_eq]; exact sdW_yes e10
    obtain ⟨hg, hq, _⟩ := set_0 e10
    rw [e1, e2, e3, e4, e5, e6, e7, e8, hrow, ew, sP0_eq n1]
    generalize rowK (aV ds off (i : Int)) = row at hv
    refine Good.learn (tid := 2) (id := 6) (ts := setP ts (nA ts ds off (i : Int) 1) (aC ds off (i : Int) 4) (.slice none 0 0) (aC ds off (i : Int) 6) (aN ds off (i : Int) 7) (aN ds off (i : Int) 8) (aN ds off (i : Int) 9) (aN ds off (i : Int) 10) (aN ds off (i : Int) 11) (aN ds off (i : Int) 12) (aN ds off (i : Int) 13) (aN ds off (i : Int) 14)) (o := pl (nA ts ds off (i : Int) 1) + 2) (off := .l 0) (n := .o (nV (aV ds off (i : Int)))) (cap := .full 2) (tyT := 41) (wT := true) (b := ⟨.pop row, 89, true⟩) (by kernel_rfl) (by kernel_rfl) rfl rfl (by decide) fun Γ' k c cells R hm hgl hok hc _ => ?_
    have hmo : More Γ Γ' := fun g cs h => (hm g cs h).1
    have hi' : @TI Γ' ts := TI.more hmo hi
    have w' : @SW Γ' ts ws := SW.more hmo w
    have hsr : @SR Γ' (.slice (some ⟨k, 0, none⟩) (nV (aV ds off (i : Int))) c) (aV ds off (i : Int)) := learn_sr hgl hok (SlQ.more hmo hv) rfl (by omega) hc
    have hsl : @SlV Γ' (.slice (some ⟨k, 0, none⟩) (nV (aV ds off (i : Int))) c) := by
      obtain ⟨r, k1, _⟩ := hsr
      exact ⟨r, k1⟩
    have k1 := (ti_set hi' hg (l := aC ds off (i : Int) 6) hq hsl (aN_all (ds := ds) (off := off) (i := (i : Int))) 0).1
    have k2 := SW.set w' hi'.ok hg (l := aC ds off (i : Int) 6) hq hsl hsr (aN_all (ds := ds) (off := off) (i := (i : Int)))
    have hset := set_set hi'.ok hg (q := aC ds off (i : Int) 4) (l := aC ds off (i : Int) 6) (c0 := aN ds off (i : Int) 7) (c1 := aN ds off (i : Int) 8) (c2 := aN ds off (i : Int) 9) (c3 := aN ds off (i : Int) 10) (c4 := aN ds off (i : Int) 11) (c5 := aN ds off (i : Int) 12) (c6 := aN ds off (i : Int) 13) (c7 := aN ds off (i : Int) 14) (v := .slice none 0 0) (w := .slice (some ⟨k, 0, none⟩) (nV (aV ds off (i : Int))) c)
    have hGB := wB_ok (off := off) (num := num) (ds := ds) (ty := ty) (ask := ask) (i := i) (@WS.mk Γ' _ _ ks vs k1 k2 (TbOk.more hmo skb) (SW.more hmo skw)) hn hin fun k v h => next Γ' _ _ k v (AcOk.more hmo hac) h
    rw [show (SN.l 0).den = 0 from rfl, show (SN.o (nV (aV ds off (i : Int)))).den = nV (aV ds off (i : Int)) from rfl, hset]
    generalize setP ts (nA ts ds off (i : Int) 1) (aC ds off (i : Int) 4) (.slice (some ⟨k, 0, none⟩) (nV (aV ds off (i : Int))) c) (aC ds off (i : Int) 6) (aN ds off (i : Int) 7) (aN ds off (i : Int) 8) (aN ds off (i : Int) 9) (aN ds off (i : Int) 10) (aN ds off (i : Int) 11) (aN ds off (i : Int) 12) (aN ds off (i : Int) 13) (aN ds off (i : Int) 14) = t2 at *
    generalize setP ts (nA ts ds off (i : Int) 1) (aC ds off (i : Int) 4) (.slice none 0 0) (aC ds off (i : Int) 6) (aN ds off (i : Int) 7) (aN ds off (i : Int) 8) (aN ds off (i : Int) 9) (aN ds off (i : Int) 10) (aN ds off (i : Int) 11) (aN ds off (i : Int) 12) (aN ds off (i : Int) 13) (aN ds off (i : Int) 14) = us at *
    generalize sdP ts ws (nA ts ds off (i : Int) 1) (aC ds off (i : Int) 4) (aV ds off (i : Int)) (aC ds off (i : Int) 6) (aN ds off (i : Int) 7) (aN ds off (i : Int) 8) (aN ds off (i : Int) 9) (aN ds off (i : Int) 10) (aN ds off (i : Int) 11) (aN ds off (i : Int) 12) (aN ds off (i : Int) 13) (aN ds off (i : Int) 14) = w2 at *
    have hb := wl off num ds ty ask (i : Int) us (pl (nA ts ds off (i : Int) 1) + 2) (nV (aV ds off (i : Int))) row w2 ks vs t2 (fun i' t w' k v => i' = (i : Int) ∧ t = t2 ∧ w' = w2 ∧ k = ks ∧ v = vs)
    have hb := hb.mpr (by repeat' first | exact rfl | exact trivial | exact wB_d0_ok _ | apply And.intro)
    exact wB_good (fun i' t w' k v ⟨f1, f2, f3, f4, f5⟩ => by rw [f1, f2, f3, f4, f5]; exact hGB) hb
theorem wA_all (hn : num ≤ 150) (h80 : ∀ j, j < num → nV (valAt ds (off + j * 15 + 5)) ≤ 80) (ha : inH ask) : ∀ k i : Nat, i + k = num → ∀ (Γ : Gh) (ts ws ks vs : Array Value), @AcOk Γ ds off num → @WS Γ ts ws ks vs → @PA Γ off num ds ty ask i ts ws ks vs := by
  intro k
  induction k with
  | zero =>
    intro i hi Γ ts ws ks vs hac s
    obtain rfl : i = num := by omega
    exact wA_end s ha hn
  | succ k ih => intro i hi Γ ts ws ks vs hac s; exact wA_step Γ ts ws ks vs i hn (by omega) hac (h80 i (by omega)) s fun Γ' t w k' v h1 h2 => ih (i + 1) (by omega) Γ' t w k' v h1 h2
end
end Go.Proofs.YtjjeahnbppmigaaDoor
/- Of TablePlays: its runs end with true. No condition. -/
namespace Go.Proofs.YtjjeahnbppmigaaDoor
set_option maxRecDepth 100000
set_option linter.unusedSimpArgs false
set_option linter.unusedVariables false
section
variable {off num : Nat} {ds : Array Value} {ty : TypeId} {ask : Int} {go gn : Nat} {gs : Array Value} {tg : TypeId}
theorem agd_ws (Γ : Gh) (hg : GnIn gs go gn) : @WS Γ (agdT gs go gn) (agdW gs go gn) (agdT gs go gn) (agdW gs go gn) := ⟨agd_ti hg, agd_sw hg, agd_tb hg, agd_sw hg⟩
theorem w_in (Γ : Gh) (hac : @AcOk Γ ds off num) (hg : GnIn gs go gn) (ha : inH ask) (he : grB ds off num = false) : @PA Γ off num ds ty ask 0 (agdT gs go gn) (agdW gs go gn) (agdT gs go gn) (agdW gs go gn) := by
  obtain ⟨k1, k2⟩ := grB_no he
  exact wA_all k1 k2 ha num 0 (Nat.zero_add _) Γ _ _ _ _ hac (agd_ws Γ hg)
theorem plays_both (Γ : Gh) (hac : @AcOk Γ ds off num) (hg : GnIn gs go gn) (ha : inH ask) : @Good Γ Tryd.prog (isB true) 2 [callFr 3 Tryd.f3.ntmps [.s (.c (.f (.slice 1 (.o go) (.o gn) .any))), acS off num, u32 ask] (Tryd.f3.body.getD .skip)] (mkM 2 [(0, ⟨.raw ds, ty, false⟩), (1, ⟨.raw gs, tg, false⟩)]) := by
  have z1 : (agdT gs go gn).size = 448 := (agd_tb hg).sz
  have z2 : (putAt zW 0 (agedW gs go gn).toList).size = 448 := (agd_sw hg).sz
  have z3 : (agedW gs go gn).size = 64 := agW_size _
  have h64 : (64 : Nat) ≤ 448 := by decide
  refine run_vc (EW_ok #[]) 1000 (w0 off num ds ty go gn gs tg ask (fun i t w k v => i = ((0 : Nat) : Int) ∧ t = agdT gs go gn ∧ w = agdW gs go gn ∧ k = agdT gs go gn ∧ v = agdW gs go gn ∧ grB ds off num = false)) ?_ (fun _ _ h => h) (fun fs m hb => wA_good (fun i t w k v ⟨e1, e2, e3, e4, e5, e6⟩ => by
    rw [e1, e2, e3, e4, e5]
    exact w_in Γ hac hg ha e6) hb)
  cases c : grB ds off num with
  | true => simp only [c, hac, beqT, beqF, Bool.not_true, Bool.not_false, true_implies, Bool.true_eq_false, Bool.false_eq_true, false_implies, and_true, true_and]
  | false =>
    cases d : decide ((gn : Int) > 100) with
    | true => simp only [c, d, hac, beqT, beqF, Bool.not_true, Bool.not_false, true_implies, Bool.true_eq_false, Bool.false_eq_true, false_implies, and_true, true_and]
    | false =>
      simp only [c, d, hac, hg, z1, z2, z3, h64, beqT, beqF, Bool.not_true, Bool.not_false, true_implies, Bool.true_eq_false, Bool.false_eq_true, false_implies, and_true, true_and, wA_d0_ok]
      exact ⟨rfl, rfl, rfl⟩
theorem plays_acts (Γ : Gh) (hac : @AcOk Γ ds off num) (ha : inH ask) : @Good Γ Tryd.prog (isB true) 2 [callFr 3 Tryd.f3.ntmps [.s (.c (.f .e0)), acS off num, u32 ask] (Tryd.f3.body.getD .skip)] (mkM 2 [(0, ⟨.raw ds, ty, false⟩)]) := by
  have hg : GnIn #[] 0 0 := GnIn.none _ _
  have h64 : (64 : Nat) ≤ 448 := by decide
  refine run_vc (EW_ok #[]) 1000 (w1 off num ds ty ask (fun i t w k v => i = ((0 : Nat) : Int) ∧ t = agdT #[] 0 0 ∧ w = agdW #[] 0 0 ∧ k = agdT #[] 0 0 ∧ v = agdW #[] 0 0 ∧ grB ds off num = false)) ?_ (fun _ _ h => h) (fun fs m hb => wA_good (fun i t w k v ⟨e1, e2, e3, e4, e5, e6⟩ => by
    rw [e1, e2, e3, e4, e5]
    exact w_in Γ hac hg ha e6) hb)
  have eW : putAt zW 0 zB.toList = agdW #[] 0 0 := rfl
  cases c : grB ds off num with
  | true => simp only [c, hac, beqT, beqF, Bool.not_true, Bool.not_false, true_implies, Bool.true_eq_false, Bool.false_eq_true, false_implies, and_true, true_and]
  | false =>
    simp only [c, hac, eW, h64, beqT, beqF, Bool.not_true, Bool.not_false, true_implies, Bool.true_eq_false, Bool.false_eq_true, false_implies, and_true, true_and, wA_d0_ok]
    rfl
theorem plays_gens (Γ : Gh) (hg : GnIn gs go gn) (ha : inH ask) : @Good Γ Tryd.prog (isB true) 1 [callFr 3 Tryd.f3.ntmps [gnS go gn, .s (.c (.f .e0)), u32 ask] (Tryd.f3.body.getD .skip)] (rM gs tg) := by
  have hb := agd_tb hg
  have w := agd_sw hg
  have z1 : (agdT gs go gn).size = 448 := hb.sz
  have eW : putAt zW 0 (agedW gs go gn).toList = agdW gs go gn := rfl
  have z2 : (agdW gs go gn).size = 448 := w.sz
  have z3 : (agedW gs go gn).size = 64 := agW_size _
  have h64 : (64 : Nat) ≤ 448 := by decide
  have hk : BkOk ((agdT gs go gn).extract 0 64) := hb.bk
  have ha' : 0 ≤ ask ∧ ask < 4294967296 := ha
  have ew := wr_h ha
  have eg : goodB ((agdT gs go gn).extract 0 64) ask = gdF (agdT gs go gn) ask := rfl
  have g := agd_gd hg ask
  have e4 : ((4 : Int) == 0) = false := rfl
  refine run_vc (EWz_ok (agdT gs go gn)) 1000 (wz0 (agdT gs go gn) go gn gs tg ask) ?_ (fun _ _ h => h) (fun _ _ h => h.elim)
  cases d : decide ((gn : Int) > 100) with
  | true => simp only [d, true_implies, Bool.true_eq_false, Bool.false_eq_true, false_implies, and_true, true_and]
  | false => simp only [d, hg, g, eg, ew, eW, ha', z1, z2, z3, h64, hk, hb, w, e4, beqT, beqF, Bool.not_true, Bool.not_false, beq_self_eq_true, true_implies, Bool.true_eq_false, Bool.false_eq_true, false_implies, and_true, true_and]
theorem plays_none (Γ : Gh) (ha : inH ask) : @Good Γ Tryd.prog (isB true) 0 [callFr 3 Tryd.f3.ntmps [.s (.c (.f .e0)), .s (.c (.f .e0)), u32 ask] (Tryd.f3.body.getD .skip)] e0M := by
  have hg : GnIn #[] 0 0 := GnIn.none _ _
  have hb := agd_tb hg
  have w := agd_sw hg
  have eW : putAt zW 0 zB.toList = agdW #[] 0 0 := rfl
  have h64 : (64 : Nat) ≤ 448 := by decide
  have hk : BkOk ((agdT #[] 0 0).extract 0 64) := hb.bk
  have ha' : 0 ≤ ask ∧ ask < 4294967296 := ha
  have ew := wr_h ha
  have eg : goodB ((agdT #[] 0 0).extract 0 64) ask = gdF (agdT #[] 0 0) ask := rfl
  have g := agd_gd hg ask
  have e4 : ((4 : Int) == 0) = false := rfl
  refine run_vc (EWz_ok (agdT #[] 0 0)) 1000 (wz1 (agdT #[] 0 0) ask) ?_ (fun _ _ h => h) (fun _ _ h => h.elim)
  simp only [g, eg, ew, eW, ha', h64, hk, hb, w, e4, beqT, beqF, Bool.not_true, Bool.not_false, beq_self_eq_true, true_implies, Bool.true_eq_false, Bool.false_eq_true, false_implies, and_true, true_and]
end
end Go.Proofs.YtjjeahnbppmigaaDoor
