/- For every script and every string, bailiwicklaw18.ScriptTells returns true, and each argument reads behind the call as it did before. No condition. -/
import Derived.Test.YtgljggoaadgddaaMC
namespace Go.Proofs.Ytgljggoaadgddaa
set_option maxRecDepth 100000
open Go.ChangeShapes Go.WideShapes Go.ChangeAt Go.RowKit Go.Deep
theorem body3 : Try.f3.body = some (Try.f3.body.getD .skip) := rfl
theorem calls_of3 {W : World} {x y : SV} {m : SMem} {R : Ren} {v u : Value} (hg : Good Try.prog (boolR true) m.next [callFr 3 Try.f3.ntmps [x, y] (Try.f3.body.getD .skip)] m) (hx : x.ok R v) (hy : y.ok R u) (hR : Rel W.heap.size (fun _ => False) W R m W) :
    Calls Try.prog 3 #[v, u] W fun e w' => e = .returned (.bool true) ∧ Below W.heap.size W w' := by
  have hl : All2 (SV.ok R) [x, y] (#[v, u] : Array Value).toList := ⟨hx, hy, trivial⟩
  have h := answers_of_good Try.func3 body3 hg hl hR
  unfold Answers at h
  refine h.mono ?_
  rintro e w' ⟨v, rfl, s', m', R', hr, _, hR', hv⟩
  exact ⟨by rw [boolR_true hr hv], below_of hR'.fr⟩
theorem tells_call {W : World} {P : Int} {o : Value} {q b : ByteArray} (hv : StrIn W o) :
    Calls Try.prog 3 #[.agg #[.int .i64 P, o, .string q], .string b] W fun e w' => e = .returned (.bool true) ∧ Below W.heap.size W w' := by
  rcases hv with ⟨a, c, rfl⟩ | ⟨b', off, n, cap, cs, ty, fz, rfl, hn, hl, hb, hI⟩
  · exact calls_of3 (m := M0) (tl_good0 P q b) (ref_ok ⟨a, c, rfl⟩) ⟨rfl, rfl⟩ (rel_empty gl_nil W 0)
  · exact calls_of3 (m := prM true cs ty) (tl_good P off n q b cs ty hI) (ref_ok ⟨⟨b', cs.size⟩, cap, rfl, rfl, trivial, hl⟩) ⟨rfl, rfl⟩ (rel_one gl_nil hb)
theorem tells_lifted (os : Os) (started : os.Started) (H : Type) (enc : TypeId × Value → H) :
    ReturnsInHanded {} Try.checked os 3 .any (Rows.scriptTellsSpec.pre6 enc Try.prog Try.f3 Rows.scriptTellsRow.domain false) (Rows.scriptTellsSpec.post enc Try.prog Try.f3 false true false false) := by
  refine returnsInHanded_of_change (C := Try.checked) own started (by kernel_rfl) Try.func3
    (ChangeSpec.witness6 (enc := enc) (C := Try.checked) false ⟨#[], #[.agg #[.int .i64 0, .slice none 0 0, .string .empty], .string .empty], []⟩ 8 (by kernel_rfl) (by kernel_rfl) (by kernel_rfl) (by kernel_rfl)) ?_
  intro W base args ds gs before hval0 hW hcnd _
  have hval : ∀ (j : Nat) t v, Try.f3.params[j]? = some t → args[j]? = some v → Value.okWide Try.prog W .any base t v := hval0
  have hW' := hW
  obtain ⟨p, q, hA0, hV, rfl, hfz, hnd⟩ := hW
  have hA : DataW.TrodAll enc Try.prog W 0 (fun _ => true) true Try.f3.params.toList args.toList ds p := hA0
  rw [Try.params3] at hA hval
  obtain ⟨v0, v1, d0, d1, p0, p1, rfl, rfl, rfl, h0, h1⟩ := trodAll_two hA
  obtain ⟨rfl, rfl⟩ := trodVars_none hV
  have h0k := h0
  obtain ⟨s, rfl, rfl, rfl, hs⟩ := Go.ChangeMaps.open_string Try.underlying9 (hval 1 9 v1 rfl rfl) h1
  obtain ⟨fu0, hf0⟩ := h0
  obtain ⟨P, o, q, rfl, ho⟩ := sc_in (hval 0 24 v0 rfl rfl) hf0
  clear hA0 hval0
  simp only [List.append_nil] at hW'
  refine (tells_call ho).mono fun e' W' ⟨he, hb⟩ => ?_
  subst he
  have hlt : ∀ y ∈ p0, y.block < W.heap.size := fun y hy => by simpa using hW'.lt y (by simpa using hy)
  refine ⟨_, rfl, post_of_below (pa := p0) (pv := []) hW' (fun _ _ _ => trodAll_mk1 (shut_bool Try.underlying4 _)) (fun sp hsp => ?_) (fun _ _ => rfl) (by simp) hb (ok_one (by kernel_rfl) rfl (okWide_bool_mk Try.underlying4 _))⟩
  rw [show p0 = p0 ++ [] from (List.append_nil p0).symm]
  refine trodAll_mk2 ?_ (Go.ChangeMaps.shut_string Try.underlying9 hs)
  exact Go.WideElems.Trod_stays laidOut (by kernel_rfl) (of_decide_eq_true (by kernel_rfl)) h0k (fun y hy => hb.same (hlt y hy)) (fun y hy => hsp y (by simpa using hy))
theorem scriptTells_holds : Rows.ScriptTellsSaid :=
  OpenClaim.holds_of_wide 3 Try.f3 rfl rfl rfl rfl rfl rfl rfl ⟨rfl, rfl, rfl, rfl, rfl⟩ rfl rfl rfl rfl rfl (by kernel_rfl) Try.func3 (by kernel_rfl)
    (of_decide_eq_true (by kernel_rfl)) (by unfold Func.isWrapper; first | (rw [if_pos (by decide +kernel)]; kernel_rfl) | (rw [if_neg (by decide +kernel)]; exact ⟨rfl, rfl⟩))
    (fun os started H enc _ => tells_lifted os started H enc)
end Go.Proofs.Ytgljggoaadgddaa
