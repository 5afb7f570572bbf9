/- For every row of generations and every row of acts, bailiwicklaw03.HandleOnce returns true, and each argument reads behind the call as it did before. No condition. -/
import Derived.Test.YtnicipemkcofpaaRows
import Derived.Test.YtnicipemkcofpaaMA
import Derived.ChangeMaps5
set_option linter.unusedVariables false
set_option linter.unusedSimpArgs false
namespace Go.Proofs.Ytnicipemkcofpaa
set_option maxRecDepth 100000
open Go.ChangeShapes Go.WideShapes Go.ChangeAt Go.RowKit Go.Deep
theorem gl_nil : glTab = [] := rfl
theorem cells37 : Try.prog.cellsOf 37 = 2 := by kernel_rfl
theorem cells24 : Try.prog.cellsOf 24 = 1 := by kernel_rfl
theorem isInt_of {k : IntKind} {cs : Array Value} {i : Nat} {n : Int} (h : cs.toList[i]? = some (.int k n)) : IsInt k cs i ∧ intAt cs i = n := by
  rw [Array.getElem?_toList] at h
  exact ⟨isI_of h, intAt_of h⟩
theorem wf_u32 {n : Int} (h : (Lit.int .u32 n).wf = true) : inH n := by
  simp only [Lit.wf, Bool.and_eq_true, decide_eq_true_eq] at h
  unfold inH
  have h1 : 0 ≤ n := h.1
  have h2 : n ≤ 4294967295 := h.2
  omega
theorem act_of {H : Type} {enc : TypeId × Value → H} {W : World} {base : Nat} {held : Bool} {n : Nat} {cs : Array Value} {p : Nat} {y : DataW H × List MemPlace}
    (h : DataW.trod enc Try.prog W base (fun _ => true) held n 37 ((cs.toList.drop p).take 2) = some y) : IsInt .u8 cs p ∧ IsInt .u32 cs (p + 1) ∧ inH (intAt cs (p + 1)) := by
  obtain ⟨n0, y0, h0⟩ := field_of Try.underlying37 h 0 rfl
  obtain ⟨n1, y1, h1⟩ := field_of Try.underlying37 h 1 rfl
  obtain ⟨_, e0, _, _⟩ := DataW.trod_int Try.underlying5 h0
  obtain ⟨_, e1, _, w1⟩ := DataW.trod_int Try.underlying24 h1
  obtain ⟨a0, _⟩ := isInt_of (sub_get (sub_one e0))
  obtain ⟨a1, b1⟩ := isInt_of (sub_get (sub_one e1))
  have w1 := wf_u32 w1
  rw [← b1] at w1
  exact ⟨a0, a1, w1⟩
/-- A row that came in: empty, or so many cells of a block. -/
def RowIn (Ok : Array Value → Nat → Nat → Prop) (W : World) (v : Value) : Prop :=
  (∃ a c, v = .slice a 0 c) ∨ ∃ b off n cap cs ty fz, v = .slice (some ⟨b, off, none⟩) n cap ∧ n ≤ cap ∧ W.heap[b]? = some (.cells cs ty fz) ∧ Ok cs off n
theorem acts_in {H : Type} {enc : TypeId × Value → H} {W : World} {base base' : Nat} {fuel : Nat} {v : Value} {held : Bool} {x : DataW H × List MemPlace}
    (hok : Value.okWide Try.prog W .any base 23 v) (h : DataW.trod enc Try.prog W base' (fun _ => true) held fuel 23 [v] = some x) : RowIn ActsOk W v := by
  obtain ⟨A, len, cap, rfl⟩ := okWide_slice Try.underlying23 hok
  rcases slice_cells Try.underlying23 cells37 hok h with ⟨rfl, rfl, rfl⟩ | ⟨b, off, cs, ty, fz, rfl, hl, _, ho, hj⟩
  · exact .inl ⟨_, _, rfl⟩
  · refine .inr ⟨b, off, len, cap, cs, ty, fz, rfl, hl, ho, fun i hi => ?_⟩
    obtain ⟨n, y, hy⟩ := hj i hi
    exact act_of hy
theorem gens_in {H : Type} {enc : TypeId × Value → H} {W : World} {base base' : Nat} {fuel : Nat} {v : Value} {held : Bool} {x : DataW H × List MemPlace}
    (hok : Value.okWide Try.prog W .any base 22 v) (h : DataW.trod enc Try.prog W base' (fun _ => true) held fuel 22 [v] = some x) : RowIn GensOk W v := by
  obtain ⟨A, len, cap, rfl⟩ := okWide_slice Try.underlying22 hok
  rcases slice_cells Try.underlying22 cells24 hok h with ⟨rfl, rfl, rfl⟩ | ⟨b, off, cs, ty, fz, rfl, hl, _, ho, hj⟩
  · exact .inl ⟨_, _, rfl⟩
  · refine .inr ⟨b, off, len, cap, cs, ty, fz, rfl, hl, ho, fun i hi => ?_⟩
    obtain ⟨n, y, hy⟩ := hj i hi
    rw [Nat.mul_one] at hy
    obtain ⟨_, e1, _, w1⟩ := DataW.trod_int Try.underlying24 hy
    obtain ⟨a1, b1⟩ := isInt_of (sub_one e1)
    have w1 := wf_u32 w1
    rw [← b1] at w1
    exact ⟨a1, w1.1⟩
theorem isB_true {R : Ren} {s : SV} {m : SMem} {v : Value} (h : isB true s m) (hv : s.ok R v) : v = .bool true := by
  unfold isB at h
  split at h
  · have hv : v = .bool _ := hv
    rw [hv, h]
  · exact h.elim
theorem body4 : Try.f4.body = some (Try.f4.body.getD .skip) := rfl
theorem calls_of {W : World} {l : List SV} {args : Array Value} {m : SMem} {R : Ren} (hg : Good Try.prog (isB true) m.next [callFr 4 Try.f4.ntmps l (Try.f4.body.getD .skip)] m) (hl : All2 (SV.ok R) l args.toList) (hR : Rel W.heap.size (fun _ => False) W R m W) :
    Calls Try.prog 4 args W fun e w' => e = .returned (.bool true) ∧ Below W.heap.size W w' := by
  have h := answers_of_good Try.func4 body4 hg hl hR
  unfold Answers at h
  refine h.mono ?_
  rintro e w' ⟨v, rfl, s', m', R', hr, _, hR', hv⟩
  exact ⟨by rw [isB_true hr hv], below_of hR'.fr⟩
/-- Nothing of what is known may be written. -/
def OnlyRead (m : SMem) : Prop := m.xs = [] ∧ ∀ i b, getB m.bl i = some b → b.wr = false
theorem rel_add {W : World} {R : Ren} {m : SMem} (hR : Rel W.heap.size (fun _ => False) W R m W) (ho : OnlyRead m) {i b : Nat} {cs : Array Value} {ty : TypeId} {fz : Nat × Nat} (hi : i < m.next) (hn : R i = none) (hb : W.heap[b]? = some (.cells cs ty fz)) :
    Rel W.heap.size (fun _ => False) W (fun j => if j = i then some ⟨b, cs.size⟩ else R j) ⟨m.next, m.bl.set i (some ⟨.raw cs, ty, false⟩), m.xs⟩ W ∧ OnlyRead ⟨m.next, m.bl.set i (some ⟨.raw cs, ty, false⟩), m.xs⟩ := by
  have ho' : OnlyRead ⟨m.next, m.bl.set i (some ⟨.raw cs, ty, false⟩), m.xs⟩ := by
    refine ⟨ho.1, fun j c hc => ?_⟩
    have hc : (m.bl.set i (some ⟨.raw cs, ty, false⟩)).get j = some c := hc
    rw [Tr.get_set] at hc
    split at hc
    · cases hc; rfl
    · exact ho.2 j c hc
  have hlt : b < W.heap.size := (Array.getElem?_eq_some_iff.1 hb).1
  refine ⟨⟨fun j k g h x y h1 h2 h3 h4 h5 h6 => ?_, fun j g h => ?_, fun j g h => ?_, fun j c hc => ?_, Nat.le_refl _, BelowF.refl _ _ _, fun j x hx => ?_, fun j k g h x y _ _ _ h4 => ?_, fun g cs hg => ?_⟩, ho'⟩
  · have e1 := ho'.2 _ _ h4
    have e2 := ho'.2 _ _ h5
    rw [e1, e2] at h6
    rcases h6 with h6 | h6 <;> cases h6
  · split at h
    · cases h; exact hlt
    · exact hR.lt j g h
  · split at h
    · rename_i e; rw [e]; exact hi
    · exact hR.nx j g h
  · have hc : (m.bl.set i (some ⟨.raw cs, ty, false⟩)).get j = some c := hc
    rw [Tr.get_set] at hc
    split at hc
    · rename_i e
      cases hc
      exact ⟨⟨b, cs.size⟩, cs, fz, by simp [e], hb, rfl, rfl, fun h => by cases h⟩
    · rename_i e
      obtain ⟨g, cs', fz', k1, k2, k3, k4, k5⟩ := hR.blk j c hc
      refine ⟨g, cs', fz', by simp [e, k1], k2, k3, SA.monoM (fun l g hl => ?_) k4, k5⟩
      by_cases el : l = i
      · rw [el, hn] at hl; cases hl
      · rw [if_neg el]; exact hl
  · have hx : getX m.xs j = some x := hx
    rw [ho.1] at hx; cases hx
  · have h4 : getX m.xs j = some x := h4
    rw [ho.1] at h4; cases h4
  · exact hR.gl g cs hg
theorem onlyRead_nil (n : Nat) : OnlyRead ⟨n, .nil, []⟩ := ⟨rfl, fun i b h => by
  have h : (Tr.nil : Tr SBlk).get i = some b := h
  rw [Tr.get_nil] at h; cases h⟩
theorem once_call {W : World} {v u : Value} (hv : RowIn GensOk W v) (hu : RowIn ActsOk W u) :
    Calls Try.prog 4 #[v, u] W fun e w' => e = .returned (.bool true) ∧ Below W.heap.size W w' := by
  have h0 := rel_empty gl_nil W 2
  rcases hv with ⟨x, c, rfl⟩ | ⟨k, go, gn, gcap, gr, gt, gz, rfl, hgl, hgb, hG⟩
  · rcases hu with ⟨y, d, rfl⟩ | ⟨j, off, n, cap, cs, ty, fz, rfl, hl, hb, hA⟩
    · exact calls_of (m := mkM 2 []) once_ee ⟨⟨x, c, rfl⟩, ⟨y, d, rfl⟩, trivial⟩ h0
    · obtain ⟨h1, _⟩ := rel_add h0 (onlyRead_nil 2) (i := 0) (by decide) rfl hb
      exact calls_of (m := mkM 2 [(0, ⟨.raw cs, ty, false⟩)]) (once_er hA) ⟨⟨x, c, rfl⟩, ⟨⟨j, cs.size⟩, cap, rfl, rfl, trivial, hl⟩, trivial⟩ h1
  · rcases hu with ⟨y, d, rfl⟩ | ⟨j, off, n, cap, cs, ty, fz, rfl, hl, hb, hA⟩
    · obtain ⟨h1, _⟩ := rel_add h0 (onlyRead_nil 2) (i := 1) (by decide) rfl hgb
      exact calls_of (m := mkM 2 [(1, ⟨.raw gr, gt, false⟩)]) (once_ge hG) ⟨⟨⟨k, gr.size⟩, gcap, rfl, rfl, trivial, hgl⟩, ⟨y, d, rfl⟩, trivial⟩ h1
    · obtain ⟨h1, o1⟩ := rel_add h0 (onlyRead_nil 2) (i := 0) (by decide) rfl hb
      obtain ⟨h2, _⟩ := rel_add h1 o1 (i := 1) (show 1 < 2 by omega) rfl hgb
      exact calls_of (m := mkM 2 [(0, ⟨.raw cs, ty, false⟩), (1, ⟨.raw gr, gt, false⟩)]) (once_gr hG hA) ⟨⟨⟨k, gr.size⟩, gcap, rfl, rfl, trivial, hgl⟩, ⟨⟨j, cs.size⟩, cap, rfl, rfl, trivial, hl⟩, trivial⟩ h2
theorem once_lifted (os : Os) (started : os.Started) (H : Type) (enc : TypeId × Value → H) :
    ReturnsInHanded {} Try.checked os 4 .any (Rows.handleOnceSpec.pre6 enc Try.prog Try.f4 Rows.handleOnceRow.domain false) (Rows.handleOnceSpec.post enc Try.prog Try.f4 false true false false) := by
  refine returnsInHanded_of_change (C := Try.checked) own started (by kernel_rfl) Try.func4
    (ChangeSpec.witness6 (enc := enc) (C := Try.checked) false ⟨#[], #[.slice none 0 0, .slice none 0 0], []⟩ 8 (by kernel_rfl) (by kernel_rfl) (by kernel_rfl) (by kernel_rfl)) ?_
  intro W base args ds gs before hval0 hW hcnd _
  have hval : ∀ (j : Nat) t v, Try.f4.params[j]? = some t → args[j]? = some v → Value.okWide Try.prog W .any base t v := hval0
  have hW' := hW
  obtain ⟨p, q, hA0, hV, rfl, hfz, hnd⟩ := hW
  have hA : DataW.TrodAll enc Try.prog W 0 (fun _ => true) true Try.f4.params.toList args.toList ds p := hA0
  rw [Try.params4] at hA hval
  obtain ⟨v0, v1, d0, d1, p0, p1, rfl, rfl, rfl, h0, h1⟩ := trodAll_two hA
  obtain ⟨rfl, rfl⟩ := trodVars_none hV
  have h0k := h0
  have h1k := h1
  obtain ⟨fu0, hf0⟩ := h0
  obtain ⟨fu1, hf1⟩ := h1
  have k0 : RowIn GensOk W v0 := gens_in (hval 0 22 v0 rfl rfl) (by
    obtain ⟨A, len, cap, e⟩ := okWide_slice Try.underlying22 (hval 0 22 v0 rfl rfl)
    subst e
    exact hf0)
  have k1 : RowIn ActsOk W v1 := acts_in (hval 1 23 v1 rfl rfl) (by
    obtain ⟨A, len, cap, e⟩ := okWide_slice Try.underlying23 (hval 1 23 v1 rfl rfl)
    subst e
    exact hf1)
  clear hA0 hval0
  simp only [List.append_nil] at hW'
  refine (once_call k0 k1).mono fun e' W' ⟨he, hb⟩ => ?_
  subst he
  have hlt : ∀ y ∈ p0 ++ p1, y.block < W.heap.size := fun y hy => by simpa using hW'.lt y (by simpa using hy)
  refine ⟨_, rfl, post_of_below (pa := p0 ++ p1) (pv := []) hW' (fun _ _ _ => trodAll_mk1 (shut_bool Try.underlying4 _)) (fun sp hsp => ?_) (fun _ _ => rfl) (by simp) hb (ok_one (by kernel_rfl) rfl (okWide_bool_mk Try.underlying4 _))⟩
  refine trodAll_mk2 ?_ ?_
  · exact Go.WideElems.Trod_stays laidOut (by kernel_rfl) (of_decide_eq_true (by kernel_rfl)) h0k (fun y hy => hb.same (hlt y (by simp [hy]))) (fun y hy => hsp y (by simp [hy]))
  · exact Go.WideElems.Trod_stays laidOut (by kernel_rfl) (of_decide_eq_true (by kernel_rfl)) h1k (fun y hy => hb.same (hlt y (by simp [hy]))) (fun y hy => hsp y (by simp [hy]))
theorem handleOnce_holds : Rows.HandleOnceSaid :=
  OpenClaim.holds_of_wide 4 Try.f4 rfl rfl rfl rfl rfl rfl rfl ⟨rfl, rfl, rfl, rfl, rfl⟩ rfl rfl rfl rfl rfl (by kernel_rfl) Try.func4 (by kernel_rfl)
    (of_decide_eq_true (by kernel_rfl)) (by unfold Func.isWrapper; first | (rw [if_pos (by decide +kernel)]; kernel_rfl) | (rw [if_neg (by decide +kernel)]; exact ⟨rfl, rfl⟩))
    (fun os started H enc _ => once_lifted os started H enc)
end Go.Proofs.Ytnicipemkcofpaa
