/- For every row of instructions and every two numbers, together of bulk at most 1048576, bailiwicklaw24.FlowTrims returns true, and each argument reads behind the call as it did before. Condition: the bulk, as the statement has it. -/
import Derived.Test.YtebkbihhnoellaaMC
import Derived.Test.YtebkbihhnoellaaMD
set_option linter.unusedVariables false
set_option linter.unusedSimpArgs false
namespace Go.Proofs.Ytebkbihhnoellaa
set_option maxRecDepth 100000
open Go.ChangeShapes Go.WideShapes Go.ChangeAt Go.RowKit Go.Deep
theorem body5 : Try.f5.body = some (Try.f5.body.getD .skip) := rfl
theorem trims_call {W : World} {v : Value} {a b : Int} (hv : InsUp W v) :
    Calls Try.prog 5 #[v, .int .i64 a, .int .i64 b] W fun e w' => e = .returned (.bool true) ∧ Below W.heap.size W w' := by
  rcases hv with ⟨x, c, rfl⟩ | ⟨k, off, n, cap, cs, ty, fz, rfl, hn, hn2, hl, hb, hI⟩
  · by_cases h : a = 0 ∧ b = 0
    · obtain ⟨rfl, rfl⟩ := h
      exact calls_of (m := mkM 1 []) Try.func5 body5 trims_zero ⟨⟨x, c, rfl⟩, rfl, rfl, trivial⟩ (rel_empty gl_nil W 1)
    · exact calls_of (m := mkM 1 []) Try.func5 body5 (trims_none a b h) ⟨⟨x, c, rfl⟩, rfl, rfl, trivial⟩ (rel_empty gl_nil W 1)
  · exact calls_of (m := rawM cs ty) Try.func5 body5 (trims_good off n cs ty a b hI hn hn2) ⟨⟨⟨k, cs.size⟩, cap, rfl, rfl, trivial, hl⟩, rfl, rfl, trivial⟩ (rel_one gl_nil hb)
theorem trims_contract (H : Type) (enc : TypeId × Value → H) (W : World) (base : Nat) (args : Array Value) (ds gs : List (DataW H)) (before : List MemPlace)
    (hval0 : ∀ (j : Nat) t v, Try.f5.params[j]? = some t → args[j]? = some v → Value.okWide Try.prog W .any base t v)
    (hW : DataW.Whole enc Try.prog Try.f5.params.toList Rows.flowTrimsSpec.vars false W args.toList ds gs before) (hk : Rows.uptoSmall H (ds ++ gs) = true) :
    Calls Try.prog 5 args W fun e W' => ∃ v, e = .returned v ∧ Rows.flowTrimsSpec.post enc Try.prog Try.f5 false true false false W args v W' := by
  have hval : ∀ (j : Nat) t v, Try.f5.params[j]? = some t → args[j]? = some v → Value.okWide Try.prog W .any base t v := hval0
  have hW' := hW
  obtain ⟨p, q, hA0, hV, rfl, hfz, hnd⟩ := hW
  have hA : DataW.TrodAll enc Try.prog W 0 (fun _ => true) true Try.f5.params.toList args.toList ds p := hA0
  rw [Try.params5] at hA hval
  obtain ⟨v0, v1, v2, d0, d1, d2, p0, p1, p2, rfl, rfl, rfl, h0, h1, h2⟩ := trodAll_three hA
  obtain ⟨rfl, rfl⟩ := trodVars_none hV
  have h0k := h0
  obtain ⟨x1, rfl, rfl, rfl, w1⟩ := open_int Try.underlying3 (hval 1 3 v1 rfl rfl) h1
  obtain ⟨x2, rfl, rfl, rfl, w2⟩ := open_int Try.underlying3 (hval 2 3 v2 rfl rfl) h2
  obtain ⟨fu0, hf0⟩ := h0
  have k0 : InsUp W v0 := ins_up (hval 0 22 v0 rfl rfl) (by
    obtain ⟨A, len, cap, e⟩ := okWide_slice Try.underlying22 (hval 0 22 v0 rfl rfl)
    subst e
    exact hf0) (bulk_head hk)
  clear hA0 hval0
  simp only [List.append_nil] at hW'
  refine (trims_call k0).mono fun e' W' ⟨he, hb⟩ => ?_
  subst he
  have hlt : ∀ y ∈ p0, y.block < W.heap.size := fun y hy => by simpa using hW'.lt y (by simpa using hy)
  refine ⟨_, rfl, post_of_below (pa := p0) (pv := []) hW' (fun _ _ _ => trodAll_mk1 (shut_bool Try.underlying4 _)) (fun sp hsp => ?_) (fun _ _ => rfl) (by simp) hb (ok_one (by kernel_rfl) rfl (okWide_bool_mk Try.underlying4 _))⟩
  rw [show p0 = p0 ++ ([] ++ []) by simp]
  refine trodAll_mk3 ?_ (shut_int Try.underlying3 w1) (shut_int Try.underlying3 w2)
  exact Go.WideElems.Trod_stays laidOut (by kernel_rfl) (of_decide_eq_true (by kernel_rfl)) h0k (fun y hy => hb.same (hlt y hy)) (fun y hy => hsp y (by simpa using hy))
theorem trims_lifted (os : Os) (started : os.Started) (H : Type) (enc : TypeId × Value → H) (F : Stop.Interp) :
    ReturnsInHanded {} Try.checked os 5 .any ((Rows.OpenSpec.upto Rows.flowTrimsSpec).pre6 enc Try.prog Try.f5 Rows.flowTrimsUptoRow.domain false) (((Rows.OpenSpec.upto Rows.flowTrimsSpec).at F).post enc Try.prog Try.f5 false true false false) := by
  refine returnsInHanded_of_cond (C := Try.checked) (s := Rows.OpenSpec.upto Rows.flowTrimsSpec) (k := Rows.uptoSmall) rfl own started (by kernel_rfl) Try.func5
    (OpenSpec.witness (enc := enc) (C := Try.checked) (s := Rows.OpenSpec.upto Rows.flowTrimsSpec) (k := Rows.uptoSmall) rfl false ⟨#[], #[.slice none 0 0, .int .i64 0, .int .i64 0], []⟩ 8 (by kernel_rfl) (by kernel_rfl) (by kernel_rfl)
      (x := ([.nil, .lit (.int .i64 0), .lit (.int .i64 0)], [], [])) (by kernel_rfl) rfl (by kernel_rfl)) ?_
  intro W base args ds gs before hval hW _ hk _
  exact trims_contract H enc W base args ds gs before hval hW hk
theorem flowTrims_holds : Rows.FlowTrimsUptoSaid :=
  OpenClaim.holds_of_cond 5 Try.f5 rfl rfl rfl rfl rfl rfl rfl ⟨rfl, rfl, rfl, rfl, rfl⟩ rfl rfl rfl rfl rfl (by kernel_rfl) Try.func5 (by kernel_rfl)
    (of_decide_eq_true (by kernel_rfl)) (by unfold Func.isWrapper; first | (rw [if_pos (by decide +kernel)]; kernel_rfl) | (rw [if_neg (by decide +kernel)]; exact ⟨rfl, rfl⟩))
    (fun os started H enc _ F => trims_lifted os started H enc F)
end Go.Proofs.Ytebkbihhnoellaa
