/- For every row of instructions and every string, bailiwicklaw13.CodeTells returns true, and each argument reads behind the call as it did before. No condition. -/
import Derived.Test.YtaagmmljhgabfaaMB
namespace Go.Proofs.Ytaagmmljhgabfaa
set_option maxRecDepth 100000
open Go.ChangeShapes Go.WideShapes Go.ChangeAt Go.RowKit Go.Deep
theorem body3 : Try.f3.body = some (Try.f3.body.getD .skip) := rfl
theorem tells_of {W : World} {x y : SV} {m : SMem} {R : Ren} {v u : Value} (hm : m.next = 1) (hg : Good Try.prog (boolR true) 1 (tellC x y) m) (hx : x.ok R v) (hy : y.ok R u) (hR : Rel W.heap.size (fun _ => False) W R m W) :
    Calls Try.prog 3 #[v, u] W fun e w' => e = .returned (.bool true) ∧ Below W.heap.size W w' := by
  have hl : All2 (SV.ok R) [x, y] (#[v, u] : Array Value).toList := ⟨hx, hy, trivial⟩
  have hg : Good Try.prog (boolR true) m.next (tellC x y) m := by rw [hm]; exact hg
  have h := answers_of_good Try.func3 body3 hg hl hR
  unfold Answers at h
  refine h.mono ?_
  rintro e w' ⟨v, rfl, s', m', R', hr, _, hR', hv⟩
  exact ⟨by rw [boolR_true hr hv], below_of hR'.fr⟩
theorem tell1_good : Good Try.prog (boolR true) 1 (tellC e0V litE) M1 :=
  (good_true (Et_ok false) tell1_true).mono fun s m h => by rw [h]; rfl
theorem tell3_any (off n : Nat) (cs : Array Value) (ty : TypeId) (hn : n ≠ 0) (hI : n ≤ 200 → InsOk cs off n) : Good Try.prog (boolR true) 1 (tellC (prS off n) litE) (prM true cs ty) := by
  by_cases h : n ≤ 200
  · exact tell3_good off n cs ty (hI h) hn h
  · refine run_vc (Et_ok false) 1000 (tl_s3 off n cs ty true) ?_ (fun _ _ h => h) (fun _ _ h => h.elim)
    refine ⟨fun h1 => ?_, fun _ => rfl⟩
    simp at h1; omega
theorem tell4_any (off n : Nat) (cs : Array Value) (ty : TypeId) (b : ByteArray) (hb0 : b.size ≠ 0) (hn : n ≠ 0) (hI : n ≤ 200 → InsOk cs off n) : Good Try.prog (boolR true) 1 (tellC (prS off n) (strV b)) (prM true cs ty) := by
  by_cases h : n ≤ 200
  · exact tell4_good off n cs ty b (hI h) hn h hb0
  · refine run_vc (Et_ok true) 1000 (tl_s4 off n cs ty b true (fun _ => False) (fun _ _ _ _ _ => False)) ?_ (fun _ _ h => h) (fun fs m hb => nT_good (fun i h => h.elim) (fun _ _ _ _ _ h => h.elim) hb)
    refine ⟨fun h1 => ?_, fun _ => rfl⟩
    simp at h1; omega
theorem tell_call {W : World} {v : Value} {b : ByteArray} (hv : InsIn W v) :
    Calls Try.prog 3 #[v, .string b] W fun e w' => e = .returned (.bool true) ∧ Below W.heap.size W w' := by
  by_cases h0 : b.size = 0
  · have e := empty_of h0
    subst e
    rcases hv with ⟨a, c, rfl⟩ | ⟨b, off, n, cap, cs, ty, fz, rfl, hn, hl, hb, hI⟩
    · exact tells_of rfl tell1_good ⟨a, c, rfl⟩ ⟨rfl, rfl⟩ (rel_empty gl_nil W 1)
    · exact tells_of rfl (tell3_any off n cs ty hn hI) ⟨⟨b, cs.size⟩, cap, rfl, rfl, trivial, hl⟩ ⟨rfl, rfl⟩ (rel_one gl_nil hb)
  · rcases hv with ⟨a, c, rfl⟩ | ⟨b', off, n, cap, cs, ty, fz, rfl, hn, hl, hb, hI⟩
    · exact tells_of rfl (tell2_good h0) ⟨a, c, rfl⟩ ⟨rfl, rfl⟩ (rel_empty gl_nil W 1)
    · exact tells_of rfl (tell4_any off n cs ty b h0 hn hI) ⟨⟨b', cs.size⟩, cap, rfl, rfl, trivial, hl⟩ ⟨rfl, rfl⟩ (rel_one gl_nil hb)
theorem tell_lifted (os : Os) (started : os.Started) (H : Type) (enc : TypeId × Value → H) :
    ReturnsInHanded {} Try.checked os 3 .any (Rows.codeTellsSpec.pre6 enc Try.prog Try.f3 Rows.codeTellsRow.domain false) (Rows.codeTellsSpec.post enc Try.prog Try.f3 false true false false) := by
  refine returnsInHanded_of_change (C := Try.checked) own started (by kernel_rfl) Try.func3
    (ChangeSpec.witness6 (enc := enc) (C := Try.checked) false ⟨#[], #[.slice none 0 0, .string .empty], []⟩ 8 (by kernel_rfl) (by kernel_rfl) (by kernel_rfl) (by kernel_rfl)) ?_
  intro W base args ds gs before hval0 hW hcnd _
  have hval : ∀ (j : Nat) t v, Try.f3.params[j]? = some t → args[j]? = some v → Value.okWide Try.prog W .any base t v := hval0
  have hW' := hW
  obtain ⟨p, q, hA0, hV, rfl, hfz, hnd⟩ := hW
  have hA : DataW.TrodAll enc Try.prog W 0 (fun _ => true) true Try.f3.params.toList args.toList ds p := hA0
  rw [Try.params3] at hA hval
  obtain ⟨v0, v1, d0, d1, p0, p1, rfl, rfl, rfl, h0, h1⟩ := trodAll_two hA
  obtain ⟨rfl, rfl⟩ := trodVars_none hV
  have h0k := h0
  obtain ⟨s, rfl, rfl, rfl, hs⟩ := Go.ChangeMaps.open_string Try.underlying9 (hval 1 9 v1 rfl rfl) h1
  obtain ⟨fu0, hf0⟩ := h0
  have k0 : InsIn W v0 := ins_in (hval 0 22 v0 rfl rfl) (by
    obtain ⟨A, len, cap, e⟩ := okWide_slice Try.underlying22 (hval 0 22 v0 rfl rfl)
    subst e
    exact hf0)
  clear hA0 hval0
  simp only [List.append_nil] at hW'
  refine (tell_call k0).mono fun e' W' ⟨he, hb⟩ => ?_
  subst he
  have hlt : ∀ y ∈ p0, y.block < W.heap.size := fun y hy => by simpa using hW'.lt y (by simpa using hy)
  refine ⟨_, rfl, post_of_below (pa := p0) (pv := []) hW' (fun _ _ _ => trodAll_mk1 (shut_bool Try.underlying4 _)) (fun sp hsp => ?_) (fun _ _ => rfl) (by simp) hb (ok_one (by kernel_rfl) rfl (okWide_bool_mk Try.underlying4 _))⟩
  rw [show p0 = p0 ++ [] from (List.append_nil p0).symm]
  refine trodAll_mk2 ?_ (Go.ChangeMaps.shut_string Try.underlying9 hs)
  exact Go.WideElems.Trod_stays laidOut (by kernel_rfl) (of_decide_eq_true (by kernel_rfl)) h0k (fun y hy => hb.same (hlt y hy)) (fun y hy => hsp y (by simpa using hy))
theorem codeTells_holds : Rows.CodeTellsSaid :=
  OpenClaim.holds_of_wide 3 Try.f3 rfl rfl rfl rfl rfl rfl rfl ⟨rfl, rfl, rfl, rfl, rfl⟩ rfl rfl rfl rfl rfl (by kernel_rfl) Try.func3 (by kernel_rfl)
    (of_decide_eq_true (by kernel_rfl)) (by unfold Func.isWrapper; first | (rw [if_pos (by decide +kernel)]; kernel_rfl) | (rw [if_neg (by decide +kernel)]; exact ⟨rfl, rfl⟩))
    (fun os started H enc _ => tell_lifted os started H enc)
end Go.Proofs.Ytaagmmljhgabfaa
