/- The operations besides: structs that are compared, interfaces, maps, clear. No condition. -/
import Derived.Test.YtjjeahnbppmigaaDoorK7b
import Derived.Laws.StructEq
import Derived.WideMake
import Derived.ChangeKeysEq
set_option linter.unusedVariables false
set_option linter.unusedSimpArgs false
namespace Go.Proofs.YtjjeahnbppmigaaDoor
set_option linter.unusedSectionVars false
variable [Gh]

omit [Gh] in
theorem and_den (a b : SB) : (a.and b).den = (a.den && b.den) := by
  cases a with
  | l a => cases a <;> cases b <;> simp [SB.and, SB.den]
  | o a => cases b with
    | l b => cases b <;> simp [SB.and, SB.den]
    | o b => simp [SB.and, SB.den]
omit [Gh] in
theorem ibeq_den (a b : SI) : (a.beq b).den = (a.den == b.den) := by cases a <;> cases b <;> rfl

section
variable {P : Program} {w : World} {R : Ren}
omit [Gh] in
theorem eqF_ok {p : TypeId → S1 → S1 → Option SB} {d : Nat} (hp : ∀ t x y s u v, p t x y = some s → x.ok R u → y.ok R v → (Op.equalIn d t u v).run P w = .ok s.den w) {a b : SA} {xs ys : Array Value}
    (ha : a.ok R xs) (hb : b.ok R ys) : ∀ {l : List Field} {s : SB}, eqF P p a b l = some s → (Op.eqFields d xs ys l).run P w = .ok s.den w
  | [], s, h => by simp only [eqF, Option.some.injEq] at h; subst h; rfl
  | f :: l, s, h => by
    simp only [eqF] at h
    split at h
    · rename_i e
      simp only [Op.eqFields, Sem.run_ite]
      rw [if_neg (by simpa using e)]
      exact eqF_ok hp ha hb h
    · rename_i e
      split at h
      · rename_i u v hu hv
        split at h
        · rename_i x y hx hy
          cases h
          obtain ⟨cu, k1, k2⟩ := partS_ok hu (fun _ h => by cases h) (SA.okM_of ha)
          obtain ⟨cv, k3, k4⟩ := partS_ok hv (fun _ h => by cases h) (SA.okM_of hb)
          have e1 := run_part (w := w) k1
          have e2 := run_part (w := w) k3
          simp only [SN.den] at e1 e2
          have e3 := hp _ _ _ _ _ _ hx k2 k4
          have ih := eqF_ok hp ha hb hy
          simp only [Op.eqFields, Sem.run_ite, Sem.run_bind]
          rw [if_pos (by simpa using e), e1]
          simp only [Result.andThen_ok]
          rw [e2]
          simp only [Result.andThen_ok]
          rw [e3]
          simp only [Result.andThen_ok, and_den]
          cases hxd : x.den
          · simp
          · simpa using ih
        · cases h
      · cases h
omit [Gh] in
theorem eqA_ok {p : TypeId → S1 → S1 → Option SB} {d : Nat} (hp : ∀ t x y s u v, p t x y = some s → x.ok R u → y.ok R v → (Op.equalIn d t u v).run P w = .ok s.den w) {e : TypeId} {c : Nat} {a b : SA} {xs ys : Array Value}
    (ha : a.ok R xs) (hb : b.ok R ys) : ∀ {l : List Nat} {s : SB}, eqA P p e c a b l = some s → (Op.eqItems d e c xs ys l).run P w = .ok s.den w
  | [], s, h => by simp only [eqA, Option.some.injEq] at h; subst h; rfl
  | i :: l, s, h => by
    simp only [eqA] at h
    split at h
    · rename_i u v hu hv
      split at h
      · rename_i x y hx hy
        cases h
        obtain ⟨cu, k1, k2⟩ := partS_ok hu (fun _ h => by cases h) (SA.okM_of ha)
        obtain ⟨cv, k3, k4⟩ := partS_ok hv (fun _ h => by cases h) (SA.okM_of hb)
        have e1 := run_part (w := w) k1
        have e2 := run_part (w := w) k3
        simp only [SN.den] at e1 e2
        have e3 := hp _ _ _ _ _ _ hx k2 k4
        have ih := eqA_ok hp ha hb hy
        simp only [Op.eqItems, Sem.run_bind]
        rw [e1]
        simp only [Result.andThen_ok]
        rw [e2]
        simp only [Result.andThen_ok]
        rw [e3]
        simp only [Result.andThen_ok, and_den]
        cases hxd : x.den
        · simp
        · simpa using ih
      · cases h
    · cases h
omit [Gh] in
theorem eqV_ok : ∀ (n : Nat) {t : TypeId} {x y : S1} {s : SB} {u v : Value}, eqV P n t x y = some s → x.ok R u → y.ok R v → ∀ d, n ≤ d → (Op.equalIn d t u v).run P w = .ok s.den w
  | 0, _, _, _, _, _, _, h, _, _, _, _ => by cases h
  | n + 1, t, x, y, s, u, v, h, hx, hy, d, hd => by
    obtain ⟨d, rfl⟩ : ∃ d', d = d' + 1 := ⟨d - 1, by omega⟩
    simp only [eqV] at h
    split at h
    · rename_i fs a b hu
      split at h
      · cases h
      · rename_i hst
        obtain ⟨xs, rfl, ha⟩ := hx
        obtain ⟨ys, rfl, hb⟩ := hy
        have hf : P.fieldsOf t = fs := by unfold Program.fieldsOf; rw [hu]
        rw [run_equalIn_struct w d t xs ys (by rw [hf]; exact hu) (by simpa using hst), hf]
        exact eqF_ok (fun t x y s u v h1 h2 h3 => eqV_ok n h1 h2 h3 d (by omega)) ha hb h
    · rename_i k' e a b hu
      split at h
      · rename_i i hi
        obtain ⟨xs, rfl, ha⟩ := hx
        obtain ⟨ys, rfl, hb⟩ := hy
        have hc : P.cellsOf e = i.size := by unfold Program.cellsOf; rw [hi]; rfl
        rw [run_equalIn_array w d xs ys hu hi, hc]
        exact eqA_ok (fun t x y s u v h1 h2 h3 => eqV_ok n h1 h2 h3 d (by omega)) ha hb h
      · cases h
    · rename_i k' hu
      split at h
      · rename_i e
        subst e
        cases h
        obtain rfl : u = _ := hx
        obtain rfl : v = _ := hy
        rw [run_equalIn_int w d t _ _ _ _ hu, ibeq_den]
      · cases h
    · rename_i hu
      cases h
      obtain rfl : u = _ := hx
      obtain rfl : v = _ := hy
      rw [run_equalIn_bool w d t _ _ hu, beq_den]
    · cases h

end
section
variable {P : Program} {n0 : Nat} {F : Nat → Prop} {w0 w : World} {R : Ren} {m : SMem}
theorem xop2_ok {T : Tm} {a : Act} {o : Oper} {q : List Prop} {s : SV} {m' : SMem} (h : xop2 P T m o.op = .ok q s m') (hq : ∀ p ∈ q, p) (hT : TmOk R T a) (hR : Rel n0 F w0 R m w) :
    Does n0 F w0 w m R m' s fun w' v => Ends P a o w w' v := by
  have pure1 : ∀ {s' : SV} {q' : List Prop} {v : Value}, XR.ok q' s' m = .ok q s m' → s'.ok R v → (execOp a.eval o).run P w = .ok (.value v) w → Does n0 F w0 w m R m' s fun w' v => Ends P a o w w' v := by
    intro s' q' v e hs hrun
    cases e
    exact ⟨R, w, v, ExtN.refl _ _ R, hR, hs, .inl hrun⟩
  generalize ho : o.op = op at h
  unfold xop2 at h
  dsimp only [xop2_a0] at h
  split at h
  case h_1 bop t x y yt =>
    split at h
    · rename_i xa ya hxa hya
      obtain ⟨xs, ex, hxs⟩ := ev_ok hT hxa
      obtain ⟨ys, ey, hys⟩ := ev_ok hT hya
      split at h
      · rename_i sb hg he
        have h1 := eqV_ok (w := w) 100 he (u := .agg xs) (v := .agg ys) ⟨xs, rfl, hxs⟩ ⟨ys, rfl, hys⟩ 10000 (by omega)
        refine pure1 (v := .bool sb.den) h rfl ?_
        have g1 := run_eqGuard_agg (w := w) .eql t x y xs ys hg
        simp [execOp, ho, ex, ey, g1, run_eql_struct, h1]
      · rename_i sb hg he
        have h1 := eqV_ok (w := w) 100 he (u := .agg xs) (v := .agg ys) ⟨xs, rfl, hxs⟩ ⟨ys, rfl, hys⟩ 10000 (by omega)
        refine pure1 (v := .bool sb.not.den) h rfl ?_
        have g1 := run_eqGuard_agg (w := w) .neq t x y xs ys hg
        simp [execOp, ho, ex, ey, g1, run_neq_struct, h1, not_den]
      · cases h
    · cases h
  · cases h
end
end Go.Proofs.YtjjeahnbppmigaaDoor
