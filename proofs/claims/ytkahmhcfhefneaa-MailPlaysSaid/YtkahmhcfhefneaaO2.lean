/- For every list of acts, bailiwicklaw11.MailPlays returns true, and the argument reads behind the call as it did before. No condition. -/
import Derived.Test.YtkahmhcfhefneaaP4
import Derived.Test.YtkahmhcfhefneaaR1
namespace Go.Proofs.Ytkahmhcfhefneaa
open Go.ChangeShapes Go.WideShapes Go.ChangeAt Go.RowKit Go.Deep
def nilS : SV := .s (.c (.f (.lit (.slice none 0 0))))
theorem plays_nil : (run E0 100000 1 [callFr 3 Try.f3.ntmps [nilS] (Try.f3.body.getD .skip)] ⟨1, .nil, []⟩).allTrue = true := by kernel_rfl
theorem plays_nil_good : Good Try.prog (fun s _ => s = sB (.l true)) 1 [callFr 3 Try.f3.ntmps [nilS] (Try.f3.body.getD .skip)] ⟨1, .nil, []⟩ := good_true E0_ok plays_nil
theorem body3 : Try.f3.body = some (Try.f3.body.getD .skip) := rfl
theorem okRet_true {R : Ren} {s : SV} {m : SMem} {v : Value} (h : okRet s m) (hv : s.ok R v) : v = .bool true := by
  unfold okRet at h
  split at h
  · exact hv
  · have hv : v = .bool _ := hv
    rw [hv]
    subst h
    rfl
  · exact h.elim
theorem plays_call {W : World} {b off n cap : Nat} {cs : Array Value} {ty : TypeId} {fz : Nat × Nat} (hb : W.heap[b]? = some (.cells cs ty fz)) (hlc : n ≤ cap) (hd : ActsOk cs off n) :
    Calls Try.prog 3 #[.slice (some ⟨b, off, none⟩) n cap] W fun e w' => e = .returned (.bool true) ∧ Below W.heap.size W w' := by
  have hl : All2 (SV.ok (fun i => if i = 0 then some ⟨b, cs.size⟩ else none)) [actsS off n] (#[.slice (some ⟨b, off, none⟩) n cap] : Array Value).toList :=
    ⟨⟨⟨b, cs.size⟩, cap, rfl, rfl, trivial, hlc⟩, trivial⟩
  have h := answers_of_good Try.func3 body3 (plays_good (ty := ty) fun _ => hd) hl (rel_one gl_nil hb)
  unfold Answers at h
  refine h.mono ?_
  rintro e w' ⟨v, rfl, s', m', R', hr, _, hR', hv⟩
  exact ⟨by rw [okRet_true hr hv], below_of hR'.fr⟩
theorem plays_call_nil {W : World} : Calls Try.prog 3 #[.slice none 0 0] W fun e w' => e = .returned (.bool true) ∧ Below W.heap.size W w' := by
  have hl : All2 (SV.ok (fun _ => none)) [nilS] (#[.slice none 0 0] : Array Value).toList := ⟨⟨rfl, rfl⟩, trivial⟩
  have h := answers_of_good Try.func3 body3 plays_nil_good hl (rel_empty gl_nil W 1)
  unfold Answers at h
  refine h.mono ?_
  rintro e w' ⟨v, rfl, s', m', R', rfl, _, hR', hv⟩
  have hv : v = .bool true := hv
  exact ⟨by rw [hv], below_of hR'.fr⟩
theorem plays_lifted (os : Os) (started : os.Started) (H : Type) (enc : TypeId × Value → H) :
    ReturnsInHanded {} Try.checked os 3 .any (Rows.mailPlaysSpec.pre6 enc Try.prog Try.f3 Rows.mailPlaysRow.domain false) (Rows.mailPlaysSpec.post enc Try.prog Try.f3 false true false false) := by
  refine returnsInHanded_of_change (C := Try.checked) own started (by kernel_rfl) Try.func3
    (ChangeSpec.witness6 (enc := enc) (C := Try.checked) false ⟨#[], #[.slice none 0 0], []⟩ 8 (by kernel_rfl) (by kernel_rfl) (by kernel_rfl) (by kernel_rfl)) ?_
  intro W base args ds gs before hval0 hW hcnd _
  have hval : ∀ (j : Nat) t v, Try.f3.params[j]? = some t → args[j]? = some v → Value.okWide Try.prog W .any base t v := hval0
  have hW' := hW
  obtain ⟨p, q, hA0, hV, rfl, hfz, hnd⟩ := hW
  have hA : DataW.TrodAll enc Try.prog W 0 (fun _ => true) true Try.f3.params.toList args.toList ds p := hA0
  rw [Try.params3] at hA hval
  obtain ⟨v0, d0, rfl, rfl, h0⟩ := trodAll_one hA
  obtain ⟨rfl, rfl⟩ := trodVars_none hV
  obtain ⟨A, len, cap, rfl⟩ := okWide_slice Try.underlying22 (hval 0 22 v0 rfl rfl)
  have h0k := h0
  obtain ⟨fu0, hf0⟩ := h0
  have hact := acts_of (hval 0 22 _ rfl rfl) hf0
  clear hA0 hval0
  simp only [List.append_nil] at hW'
  have walk : Calls Try.prog 3 #[.slice A len cap] W fun e w' => e = .returned (.bool true) ∧ Below W.heap.size W w' := by
    rcases hact with ⟨rfl, rfl, rfl⟩ | ⟨b, off, cs, ty, fz, rfl, hlc, hb, hd⟩
    · exact plays_call_nil
    · exact plays_call hb hlc hd
  refine walk.mono fun e W' ⟨he, hb⟩ => ?_
  subst he
  have hlt : ∀ y ∈ p, y.block < W.heap.size := fun y hy => by simpa using hW'.lt y (by simpa using hy)
  refine ⟨_, rfl, post_of_below (pa := p) (pv := []) hW' (fun _ _ _ => trodAll_mk1 (shut_bool Try.underlying4 _)) (fun sp hsp => ?_) (fun _ _ => rfl) (by simp) hb (ok_one (by kernel_rfl) rfl (okWide_bool_mk Try.underlying4 _))⟩
  exact trodAll_mk1 (Go.WideElems.Trod_stays laidOut (by kernel_rfl) (of_decide_eq_true (by kernel_rfl)) h0k (fun y hy => hb.same (hlt y hy)) (fun y hy => hsp y (by simpa using hy)))
theorem mailPlays_holds : Rows.MailPlaysSaid :=
  OpenClaim.holds_of_wide 3 Try.f3 rfl rfl rfl rfl rfl rfl rfl ⟨rfl, rfl, rfl, rfl, rfl⟩ rfl rfl rfl rfl rfl (by kernel_rfl) Try.func3 (by kernel_rfl)
    (of_decide_eq_true (by kernel_rfl)) (by unfold Func.isWrapper; first | (rw [if_pos (by decide +kernel)]; kernel_rfl) | (rw [if_neg (by decide +kernel)]; exact ⟨rfl, rfl⟩))
    (fun os started H enc _ => plays_lifted os started H enc)
end Go.Proofs.Ytkahmhcfhefneaa
