/- For every row of acts, every region and every task, bailiwicklaw09.TokenPlays returns true, and each argument reads behind the call as it did before. No condition. -/
import Derived.Test.YtnjmockpdmchcaaRows
import Derived.Test.YtnjmockpdmchcaaMD
import Derived.Test.YtnjmockpdmchcaaR0
import Derived.ChangeMaps5
set_option linter.unusedVariables false
set_option linter.unusedSimpArgs false
namespace Go.Proofs.Ytnjmockpdmchcaa
set_option maxRecDepth 100000
open Go.ChangeShapes Go.WideShapes Go.ChangeAt Go.RowKit Go.Deep
theorem gl_nil : glTab = [] := rfl
theorem cells45 : Try.prog.cellsOf 45 = 7 := by kernel_rfl
theorem isInt_of {k : IntKind} {cs : Array Value} {i : Nat} {n : Int} (h : cs.toList[i]? = some (.int k n)) : IsInt k cs i ∧ intAt cs i = n := by
  rw [Array.getElem?_toList] at h
  exact ⟨isI_of h, intAt_of h⟩
theorem wf_u32 {n : Int} (h : (Lit.int .u32 n).wf = true) : inH n := by
  simp only [Lit.wf, Bool.and_eq_true, decide_eq_true_eq] at h
  unfold inH
  have h1 : 0 ≤ n := h.1
  have h2 : n ≤ 4294967295 := h.2
  omega
theorem wf_u8 {n : Int} (h : (Lit.int .u8 n).wf = true) : 0 ≤ n ∧ n ≤ 255 := by
  simp only [Lit.wf, Bool.and_eq_true, decide_eq_true_eq] at h
  exact h
theorem act_of {H : Type} {enc : TypeId × Value → H} {W : World} {base : Nat} {held : Bool} {n : Nat} {cs : Array Value} {p : Nat} {y : DataW H × List MemPlace}
    (h : DataW.trod enc Try.prog W base (fun _ => true) held n 45 ((cs.toList.drop p).take 7) = some y) : ActOk cs p := by
  obtain ⟨n0, y0, h0⟩ := field_of Try.underlying45 h 0 rfl
  obtain ⟨n1, y1, h1⟩ := field_of Try.underlying45 h 1 rfl
  obtain ⟨n2, y2, h2⟩ := field_of Try.underlying45 h 2 rfl
  obtain ⟨m0, x0, k0⟩ := field_of Try.underlying32 h2 0 rfl
  obtain ⟨m1, x1, k1⟩ := field_of Try.underlying32 h2 1 rfl
  obtain ⟨m2, x2, k2⟩ := field_of Try.underlying32 h2 2 rfl
  obtain ⟨m3, x3, k3⟩ := field_of Try.underlying32 h2 3 rfl
  obtain ⟨m4, x4, k4⟩ := field_of Try.underlying32 h2 4 rfl
  obtain ⟨_, e0, _, _⟩ := DataW.trod_int Try.underlying5 h0
  obtain ⟨_, e1, _, w1⟩ := DataW.trod_int Try.underlying23 h1
  obtain ⟨_, f0, _, u0⟩ := DataW.trod_int Try.underlying30 k0
  obtain ⟨_, f1, _, u1⟩ := DataW.trod_int Try.underlying5 k1
  obtain ⟨_, f2, _, u2⟩ := DataW.trod_int Try.underlying5 k2
  obtain ⟨bb, f3, _⟩ := DataW.trod_bool Try.underlying4 k3
  obtain ⟨_, f4, _, u4⟩ := DataW.trod_int Try.underlying30 k4
  obtain ⟨a0, _⟩ := isInt_of (sub_get (sub_one e0))
  obtain ⟨a1, b1⟩ := isInt_of (sub_get (sub_one e1))
  obtain ⟨a2, b2⟩ := isInt_of (sub_get (sub_get (sub_one f0)))
  obtain ⟨a3, b3⟩ := isInt_of (sub_get (sub_get (sub_one f1)))
  obtain ⟨a4, b4⟩ := isInt_of (sub_get (sub_get (sub_one f2)))
  have a5 := sub_get (sub_get (sub_one f3))
  obtain ⟨a6, b6⟩ := isInt_of (sub_get (sub_get (sub_one f4)))
  have w1 := wf_u32 w1
  have u0 := wf_u32 u0
  have u1 := wf_u8 u1
  have u2 := wf_u8 u2
  have u4 := wf_u32 u4
  rw [← b1] at w1
  rw [← b2] at u0
  rw [← b3] at u1
  rw [← b4] at u2
  rw [← b6] at u4
  rw [Array.getElem?_toList] at a5
  exact ⟨a0, a1, a2, a3, a4, isBo_of a5, a6, w1, u0, u1, u2, u4⟩
def RowIn (Ok : Array Value → Nat → Nat → Prop) (W : World) (v : Value) : Prop :=
  (∃ a c, v = .slice a 0 c) ∨ ∃ b off n cap cs ty fz, v = .slice (some ⟨b, off, none⟩) n cap ∧ n ≤ cap ∧ W.heap[b]? = some (.cells cs ty fz) ∧ Ok cs off n
theorem acts_in {H : Type} {enc : TypeId × Value → H} {W : World} {base base' : Nat} {fuel : Nat} {v : Value} {held : Bool} {x : DataW H × List MemPlace}
    (hok : Value.okWide Try.prog W .any base 22 v) (h : DataW.trod enc Try.prog W base' (fun _ => true) held fuel 22 [v] = some x) : RowIn ActsOk W v := by
  obtain ⟨A, len, cap, rfl⟩ := okWide_slice Try.underlying22 hok
  rcases slice_cells Try.underlying22 cells45 hok h with ⟨rfl, rfl, rfl⟩ | ⟨b, off, cs, ty, fz, rfl, hl, _, ho, hj⟩
  · exact .inl ⟨_, _, rfl⟩
  · refine .inr ⟨b, off, len, cap, cs, ty, fz, rfl, hl, ho, fun i hi => ?_⟩
    obtain ⟨n, y, hy⟩ := hj i hi
    exact act_of hy
theorem isB_true {R : Ren} {s : SV} {m : SMem} {v : Value} (h : isB true s m) (hv : s.ok R v) : v = .bool true := by
  unfold isB at h
  split at h
  · have hv : v = .bool _ := hv
    rw [hv, h]
  · exact h.elim
theorem body3 : Try.f3.body = some (Try.f3.body.getD .skip) := rfl
theorem calls_of {W : World} {l : List SV} {args : Array Value} {m : SMem} {R : Ren} (hg : Good Try.prog (isB true) m.next [callFr 3 Try.f3.ntmps l (Try.f3.body.getD .skip)] m) (hl : All2 (SV.ok R) l args.toList) (hR : Rel W.heap.size (fun _ => False) W R m W) :
    Calls Try.prog 3 args W fun e w' => e = .returned (.bool true) ∧ Below W.heap.size W w' := by
  have h := answers_of_good Try.func3 body3 hg hl hR
  unfold Answers at h
  refine h.mono ?_
  rintro e w' ⟨v, rfl, s', m', R', hr, _, hR', hv⟩
  exact ⟨by rw [isB_true hr hv], below_of hR'.fr⟩
theorem play_call {W : World} {v : Value} {rg tk : Int} (hr : inH rg) (hv : RowIn ActsOk W v) :
    Calls Try.prog 3 #[v, .int .u32 rg, .int .i64 tk] W fun e w' => e = .returned (.bool true) ∧ Below W.heap.size W w' := by
  rcases hv with ⟨y, d, rfl⟩ | ⟨j, off, n, cap, cs, ty, fz, rfl, hl, hb, hA⟩
  · exact calls_of (m := mkM 1 []) (play_none hr) ⟨⟨y, d, rfl⟩, rfl, rfl, trivial⟩ (rel_empty gl_nil W 1)
  · exact calls_of (m := mkM 1 [(0, ⟨.raw cs, ty, false⟩)]) (play_row hA hr) ⟨⟨⟨j, cs.size⟩, cap, rfl, rfl, trivial, hl⟩, rfl, rfl, trivial⟩ (rel_one gl_nil hb)
theorem play_lifted (os : Os) (started : os.Started) (H : Type) (enc : TypeId × Value → H) :
    ReturnsInHanded {} Try.checked os 3 .any (Rows.tokenPlaysSpec.pre6 enc Try.prog Try.f3 Rows.tokenPlaysRow.domain false) (Rows.tokenPlaysSpec.post enc Try.prog Try.f3 false true false false) := by
  refine returnsInHanded_of_change (C := Try.checked) own started (by kernel_rfl) Try.func3
    (ChangeSpec.witness6 (enc := enc) (C := Try.checked) false ⟨#[], #[.slice none 0 0, .int .u32 0, .int .i64 0], []⟩ 8 (by kernel_rfl) (by kernel_rfl) (by kernel_rfl) (by kernel_rfl)) ?_
  intro W base args ds gs before hval0 hW hcnd _
  have hval : ∀ (j : Nat) t v, Try.f3.params[j]? = some t → args[j]? = some v → Value.okWide Try.prog W .any base t v := hval0
  have hW' := hW
  obtain ⟨p, q, hA0, hV, rfl, hfz, hnd⟩ := hW
  have hA : DataW.TrodAll enc Try.prog W 0 (fun _ => true) true Try.f3.params.toList args.toList ds p := hA0
  rw [Try.params3] at hA hval
  obtain ⟨v0, v1, v2, d0, d1, d2, p0, p1, p2, rfl, rfl, rfl, h0, h1, h2⟩ := trodAll_three hA
  obtain ⟨rfl, rfl⟩ := trodVars_none hV
  have h0k := h0
  obtain ⟨x1, rfl, rfl, rfl, w1⟩ := open_int Try.underlying23 (hval 1 23 v1 rfl rfl) h1
  obtain ⟨x2, rfl, rfl, rfl, w2⟩ := open_int Try.underlying3 (hval 2 3 v2 rfl rfl) h2
  obtain ⟨fu0, hf0⟩ := h0
  have k0 : RowIn ActsOk W v0 := acts_in (hval 0 22 v0 rfl rfl) (by
    obtain ⟨A, len, cap, e⟩ := okWide_slice Try.underlying22 (hval 0 22 v0 rfl rfl)
    subst e
    exact hf0)
  clear hA0 hval0
  simp only [List.append_nil] at hW'
  refine (play_call (wf_u32 w1) k0).mono fun e' W' ⟨he, hb⟩ => ?_
  subst he
  have hlt : ∀ y ∈ p0, y.block < W.heap.size := fun y hy => by simpa using hW'.lt y (by simpa using hy)
  refine ⟨_, rfl, post_of_below (pa := p0) (pv := []) hW' (fun _ _ _ => trodAll_mk1 (shut_bool Try.underlying4 _)) (fun sp hsp => ?_) (fun _ _ => rfl) (by simp) hb (ok_one (by kernel_rfl) rfl (okWide_bool_mk Try.underlying4 _))⟩
  rw [show p0 = p0 ++ ([] ++ []) by simp]
  refine trodAll_mk3 ?_ (shut_int Try.underlying23 w1) (shut_int Try.underlying3 w2)
  exact Go.WideElems.Trod_stays laidOut (by kernel_rfl) (of_decide_eq_true (by kernel_rfl)) h0k (fun y hy => hb.same (hlt y hy)) (fun y hy => hsp y (by simpa using hy))
theorem tokenPlays_holds : Rows.TokenPlaysSaid :=
  OpenClaim.holds_of_wide 3 Try.f3 rfl rfl rfl rfl rfl rfl rfl ⟨rfl, rfl, rfl, rfl, rfl⟩ rfl rfl rfl rfl rfl (by kernel_rfl) Try.func3 (by kernel_rfl)
    (of_decide_eq_true (by kernel_rfl)) (by unfold Func.isWrapper; first | (rw [if_pos (by decide +kernel)]; kernel_rfl) | (rw [if_neg (by decide +kernel)]; exact ⟨rfl, rfl⟩))
    (fun os started H enc _ => play_lifted os started H enc)
end Go.Proofs.Ytnjmockpdmchcaa
