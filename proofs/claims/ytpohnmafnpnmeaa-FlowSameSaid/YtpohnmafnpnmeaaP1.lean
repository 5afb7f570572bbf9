/- For every row of instructions and every row of results, bailiwicklaw24.FlowSame returns true, and each argument reads behind the call as it did before. No condition. -/
import Derived.Test.YtpohnmafnpnmeaaME
set_option linter.unusedVariables false
set_option linter.unusedSimpArgs false
namespace Go.Proofs.Ytpohnmafnpnmeaa
set_option maxRecDepth 100000
open Go.ChangeShapes Go.WideShapes Go.ChangeAt Go.RowKit Go.Deep
theorem body4s : Try.f4.body = some (Try.f4.body.getD .skip) := rfl
theorem same_ee : Good Try.prog (boolR true) 1 [callFr 4 Try.f4.ntmps [e0V, e0V] (Try.f4.body.getD .skip)] (mkM 1 []) := by
  refine run_vc EZ_ok 8000 (se_vc 0) ?_ (fun _ _ h => h) (fun _ _ h => h.elim)
  repeat' first | exact trivial | exact rfl | apply And.intro
theorem same_er (ro rn : Nat) (rc : Array Value) (rt : TypeId) : Good Try.prog (boolR true) 1 [callFr 4 Try.f4.ntmps [e0V, prS ro rn] (Try.f4.body.getD .skip)] (rawM rc rt) := by
  refine run_vc EZ_ok 8000 (sr_vc ro rn rc rt) ?_ (fun _ _ h => h) (fun _ _ h => h.elim)
  repeat' first | exact trivial | exact rfl | apply And.intro | (intro _)
theorem same_call {W : World} {v u : Value} (hv : InsIn W v) (hu : ResIn W u) :
    Calls Try.prog 4 #[v, u] W fun e w' => e = .returned (.bool true) ∧ Below W.heap.size W w' := by
  rcases hv with ⟨x, c, rfl⟩ | ⟨k, off, n, cap, cs, ty, fz, rfl, hn, hl, hb, hI⟩
  · rcases hu with ⟨y, d, rfl⟩ | ⟨j, ro, rn, rcap, rc, rt, rz, rfl, hrn, hrl, hrb, hR⟩
    · exact calls_of (m := mkM 1 []) Try.func4 body4s same_ee ⟨⟨x, c, rfl⟩, ⟨y, d, rfl⟩, trivial⟩ (rel_empty gl_nil W 1)
    · exact calls_of (m := rawM rc rt) Try.func4 body4s (same_er ro rn rc rt) ⟨⟨x, c, rfl⟩, ⟨⟨j, rc.size⟩, rcap, rfl, rfl, trivial, hrl⟩, trivial⟩ (rel_one gl_nil hrb)
  · rcases hu with ⟨y, d, rfl⟩ | ⟨j, ro, rn, rcap, rc, rt, rz, rfl, hrn, hrl, hrb, hR⟩
    · exact calls_of (m := rawM cs ty) Try.func4 body4s (same_y off n cs ty hI hn) ⟨⟨⟨k, cs.size⟩, cap, rfl, rfl, trivial, hl⟩, ⟨y, d, rfl⟩, trivial⟩ (rel_one gl_nil hb)
    · exact calls_of (m := mkM 2 [(0, ⟨.raw cs, ty, false⟩), (1, ⟨.raw rc, rt, false⟩)]) Try.func4 body4s (same_v off n cs ty ro rn rc rt (fun _ => hR) hrn hI hn) ⟨⟨⟨k, cs.size⟩, cap, rfl, rfl, trivial, hl⟩, ⟨⟨j, rc.size⟩, rcap, rfl, rfl, trivial, hrl⟩, trivial⟩ (rel_two hb hrb)
theorem same_lifted (os : Os) (started : os.Started) (H : Type) (enc : TypeId × Value → H) :
    ReturnsInHanded {} Try.checked os 4 .any (Rows.flowSameSpec.pre6 enc Try.prog Try.f4 Rows.flowSameRow.domain false) (Rows.flowSameSpec.post enc Try.prog Try.f4 false true false false) := by
  refine returnsInHanded_of_change (C := Try.checked) own started (by kernel_rfl) Try.func4
    (ChangeSpec.witness6 (enc := enc) (C := Try.checked) false ⟨#[], #[.slice none 0 0, .slice none 0 0], []⟩ 8 (by kernel_rfl) (by kernel_rfl) (by kernel_rfl) (by kernel_rfl)) ?_
  intro W base args ds gs before hval0 hW hcnd _
  have hval : ∀ (j : Nat) t v, Try.f4.params[j]? = some t → args[j]? = some v → Value.okWide Try.prog W .any base t v := hval0
  have hW' := hW
  obtain ⟨p, q, hA0, hV, rfl, hfz, hnd⟩ := hW
  have hA : DataW.TrodAll enc Try.prog W 0 (fun _ => true) true Try.f4.params.toList args.toList ds p := hA0
  rw [Try.params4] at hA hval
  obtain ⟨v0, v1, d0, d1, p0, p1, rfl, rfl, rfl, h0, h1⟩ := trodAll_two hA
  obtain ⟨rfl, rfl⟩ := trodVars_none hV
  have h0k := h0
  have h1k := h1
  obtain ⟨fu0, hf0⟩ := h0
  obtain ⟨fu1, hf1⟩ := h1
  have k0 : InsIn W v0 := ins_in (hval 0 22 v0 rfl rfl) (by
    obtain ⟨A, len, cap, e⟩ := okWide_slice Try.underlying22 (hval 0 22 v0 rfl rfl)
    subst e
    exact hf0)
  have k1 : ResIn W v1 := res_in (hval 1 23 v1 rfl rfl) (by
    obtain ⟨A, len, cap, e⟩ := okWide_slice Try.underlying23 (hval 1 23 v1 rfl rfl)
    subst e
    exact hf1)
  clear hA0 hval0
  simp only [List.append_nil] at hW'
  refine (same_call k0 k1).mono fun e' W' ⟨he, hb⟩ => ?_
  subst he
  have hlt : ∀ y ∈ p0 ++ p1, y.block < W.heap.size := fun y hy => by simpa using hW'.lt y (by simpa using hy)
  refine ⟨_, rfl, post_of_below (pa := p0 ++ p1) (pv := []) hW' (fun _ _ _ => trodAll_mk1 (shut_bool Try.underlying4 _)) (fun sp hsp => ?_) (fun _ _ => rfl) (by simp) hb (ok_one (by kernel_rfl) rfl (okWide_bool_mk Try.underlying4 _))⟩
  refine trodAll_mk2 ?_ ?_
  · exact Go.WideElems.Trod_stays laidOut (by kernel_rfl) (of_decide_eq_true (by kernel_rfl)) h0k (fun y hy => hb.same (hlt y (by simp [hy]))) (fun y hy => hsp y (by simp [hy]))
  · exact Go.WideElems.Trod_stays laidOut (by kernel_rfl) (of_decide_eq_true (by kernel_rfl)) h1k (fun y hy => hb.same (hlt y (by simp [hy]))) (fun y hy => hsp y (by simp [hy]))
theorem flowSame_holds : Rows.FlowSameSaid :=
  OpenClaim.holds_of_wide 4 Try.f4 rfl rfl rfl rfl rfl rfl rfl ⟨rfl, rfl, rfl, rfl, rfl⟩ rfl rfl rfl rfl rfl (by kernel_rfl) Try.func4 (by kernel_rfl)
    (of_decide_eq_true (by kernel_rfl)) (by unfold Func.isWrapper; first | (rw [if_pos (by decide +kernel)]; kernel_rfl) | (rw [if_neg (by decide +kernel)]; exact ⟨rfl, rfl⟩))
    (fun os started H enc _ => same_lifted os started H enc)
end Go.Proofs.Ytpohnmafnpnmeaa
