/- For every row of instructions and every two numbers, bailiwicklaw24.FlowGoes returns true, and each argument reads behind the call as it did before. No condition. -/
import Derived.Test.YtebkbihhnoellaaMC
set_option linter.unusedVariables false
set_option linter.unusedSimpArgs false
namespace Go.Proofs.Ytebkbihhnoellaa
set_option maxRecDepth 100000
open Go.ChangeShapes Go.WideShapes Go.ChangeAt Go.RowKit Go.Deep
theorem body3 : Try.f3.body = some (Try.f3.body.getD .skip) := rfl
theorem goes_any (off n : Nat) (cs : Array Value) (ty : TypeId) (a b : Int) (hn : n ≠ 0) (hI : n ≤ 200 → InsOk cs off n) : Good Try.prog (boolR true) 1 (goC off n a b) (rawM cs ty) := by
  by_cases h : n ≤ 200
  · exact goes_good off n cs ty a b (hI h) hn
  · refine run_vc EGo_ok 8000 (sH_vc off n cs ty a b (fun _ _ _ _ _ _ => False) (fun _ _ _ _ => False)) ?_ (fun _ _ h => h) (fun fs m hb => sH_go (fun _ _ _ _ _ _ h => h.elim) (fun _ _ _ _ h => h.elim) hb)
    refine ⟨fun _ => rfl, fun h1 => ?_⟩
    simp at h1; omega
theorem goes_call {W : World} {v : Value} {a b : Int} (hv : InsIn W v) :
    Calls Try.prog 3 #[v, .int .i64 a, .int .i64 b] W fun e w' => e = .returned (.bool true) ∧ Below W.heap.size W w' := by
  rcases hv with ⟨x, c, rfl⟩ | ⟨k, off, n, cap, cs, ty, fz, rfl, hn, hl, hb, hI⟩
  · exact calls_of (m := mkM 1 []) Try.func3 body3 (goes_none a b) ⟨⟨x, c, rfl⟩, rfl, rfl, trivial⟩ (rel_empty gl_nil W 1)
  · exact calls_of (m := rawM cs ty) Try.func3 body3 (goes_any off n cs ty a b hn hI) ⟨⟨⟨k, cs.size⟩, cap, rfl, rfl, trivial, hl⟩, rfl, rfl, trivial⟩ (rel_one gl_nil hb)
theorem goes_lifted (os : Os) (started : os.Started) (H : Type) (enc : TypeId × Value → H) :
    ReturnsInHanded {} Try.checked os 3 .any (Rows.flowGoesSpec.pre6 enc Try.prog Try.f3 Rows.flowGoesRow.domain false) (Rows.flowGoesSpec.post enc Try.prog Try.f3 false true false false) := by
  refine returnsInHanded_of_change (C := Try.checked) own started (by kernel_rfl) Try.func3
    (ChangeSpec.witness6 (enc := enc) (C := Try.checked) false ⟨#[], #[.slice none 0 0, .int .i64 0, .int .i64 0], []⟩ 8 (by kernel_rfl) (by kernel_rfl) (by kernel_rfl) (by kernel_rfl)) ?_
  intro W base args ds gs before hval0 hW hcnd _
  have hval : ∀ (j : Nat) t v, Try.f3.params[j]? = some t → args[j]? = some v → Value.okWide Try.prog W .any base t v := hval0
  have hW' := hW
  obtain ⟨p, q, hA0, hV, rfl, hfz, hnd⟩ := hW
  have hA : DataW.TrodAll enc Try.prog W 0 (fun _ => true) true Try.f3.params.toList args.toList ds p := hA0
  rw [Try.params3] at hA hval
  obtain ⟨v0, v1, v2, d0, d1, d2, p0, p1, p2, rfl, rfl, rfl, h0, h1, h2⟩ := trodAll_three hA
  obtain ⟨rfl, rfl⟩ := trodVars_none hV
  have h0k := h0
  obtain ⟨x1, rfl, rfl, rfl, w1⟩ := open_int Try.underlying3 (hval 1 3 v1 rfl rfl) h1
  obtain ⟨x2, rfl, rfl, rfl, w2⟩ := open_int Try.underlying3 (hval 2 3 v2 rfl rfl) h2
  obtain ⟨fu0, hf0⟩ := h0
  have k0 : InsIn W v0 := ins_in (hval 0 22 v0 rfl rfl) (by
    obtain ⟨A, len, cap, e⟩ := okWide_slice Try.underlying22 (hval 0 22 v0 rfl rfl)
    subst e
    exact hf0)
  clear hA0 hval0
  simp only [List.append_nil] at hW'
  refine (goes_call k0).mono fun e' W' ⟨he, hb⟩ => ?_
  subst he
  have hlt : ∀ y ∈ p0, y.block < W.heap.size := fun y hy => by simpa using hW'.lt y (by simpa using hy)
  refine ⟨_, rfl, post_of_below (pa := p0) (pv := []) hW' (fun _ _ _ => trodAll_mk1 (shut_bool Try.underlying4 _)) (fun sp hsp => ?_) (fun _ _ => rfl) (by simp) hb (ok_one (by kernel_rfl) rfl (okWide_bool_mk Try.underlying4 _))⟩
  rw [show p0 = p0 ++ ([] ++ []) by simp]
  refine trodAll_mk3 ?_ (shut_int Try.underlying3 w1) (shut_int Try.underlying3 w2)
  exact Go.WideElems.Trod_stays laidOut (by kernel_rfl) (of_decide_eq_true (by kernel_rfl)) h0k (fun y hy => hb.same (hlt y hy)) (fun y hy => hsp y (by simpa using hy))
theorem flowGoes_holds : Rows.FlowGoesSaid :=
  OpenClaim.holds_of_wide 3 Try.f3 rfl rfl rfl rfl rfl rfl rfl ⟨rfl, rfl, rfl, rfl, rfl⟩ rfl rfl rfl rfl rfl (by kernel_rfl) Try.func3 (by kernel_rfl)
    (of_decide_eq_true (by kernel_rfl)) (by unfold Func.isWrapper; first | (rw [if_pos (by decide +kernel)]; kernel_rfl) | (rw [if_neg (by decide +kernel)]; exact ⟨rfl, rfl⟩))
    (fun os started H enc _ => goes_lifted os started H enc)
end Go.Proofs.Ytebkbihhnoellaa
