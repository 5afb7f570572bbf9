/- For every string and every row of bytes, bailiwicklaw27.JournalAdds returns true, and each argument reads behind the call as it did before. No condition. -/
import Derived.Test.YtapkbgccbmjfaaaMD
namespace Go.Proofs.Ytapkbgccbmjfaaa
set_option maxRecDepth 100000
open Go.ChangeShapes Go.WideShapes Go.ChangeAt Go.RowKit Go.Deep
theorem body5a : Try.f5.body = some (Try.f5.body.getD .skip) := rfl
theorem cells5u : Try.prog.cellsOf 5 = 1 := by kernel_rfl
theorem isInt_of {k : IntKind} {cs : Array Value} {i : Nat} {n : Int} (h : cs.toList[i]? = some (.int k n)) : IsInt k cs i ∧ intAt cs i = n := by
  rw [Array.getElem?_toList] at h
  exact ⟨(intAt_is h).2, (intAt_is h).1⟩
theorem wf_u8 {n : Int} (h : (Lit.int .u8 n).wf = true) : 0 ≤ n ∧ n ≤ 255 := by
  simp only [Lit.wf, Bool.and_eq_true, decide_eq_true_eq] at h
  exact h
/-- A row of bytes that came in: empty, or so many cells of a block. -/
def BytIn (W : World) (v : Value) : Prop :=
  (∃ a c, v = .slice a 0 c) ∨ ∃ b off n cap cs ty fz, v = .slice (some ⟨b, off, none⟩) n cap ∧ n ≠ 0 ∧ n ≤ cap ∧ W.heap[b]? = some (.cells cs ty fz) ∧ (n ≤ 300 → BytR cs off n)
theorem byt_in {H : Type} {enc : TypeId × Value → H} {W : World} {base base' : Nat} {fuel : Nat} {v : Value} {held : Bool} {x : DataW H × List MemPlace}
    (hok : Value.okWide Try.prog W .any base 30 v) (h : DataW.trod enc Try.prog W base' (fun _ => true) held fuel 30 [v] = some x) : BytIn W v := by
  obtain ⟨A, len, cap, rfl⟩ := okWide_slice Try.underlying30 hok
  rcases slice_cells Try.underlying30 cells5u hok h with ⟨rfl, rfl, rfl⟩ | ⟨b, off, cs, ty, fz, rfl, hl, _, ho, hj⟩
  · exact .inl ⟨_, _, rfl⟩
  · by_cases h0 : len = 0
    · subst h0; exact .inl ⟨_, _, rfl⟩
    · refine .inr ⟨b, off, len, cap, cs, ty, fz, rfl, h0, hl, ho, fun hn => ?_⟩
      have key : ∀ i, i < len → IsInt .u8 cs (off + i) ∧ 0 ≤ intAt cs (off + i) ∧ intAt cs (off + i) ≤ 255 := fun i hi => by
        obtain ⟨n, y, hy⟩ := hj i hi
        rw [Nat.mul_one] at hy
        obtain ⟨m, e, _, w⟩ := DataW.trod_int Try.underlying5 hy
        obtain ⟨a1, b1⟩ := isInt_of (sub_one e)
        have w := wf_u8 w
        rw [← b1] at w
        exact ⟨a1, w⟩
      refine ⟨⟨by omega, fun i hi => (key i hi).1⟩, ?_, fun i hi => (key i hi).2⟩
      have e := (key (len - 1) (by omega)).1
      unfold IsInt at e
      have := (Array.getElem?_eq_some_iff.1 e).1
      omega
theorem calls_of5 {W : World} {x y : SV} {m : SMem} {R : Ren} {v u : Value} (hg : Good Try.prog (boolR true) m.next [callFr 5 Try.f5.ntmps [x, y] (Try.f5.body.getD .skip)] m) (hx : x.ok R v) (hy : y.ok R u) (hR : Rel W.heap.size (fun _ => False) W R m W) :
    Calls Try.prog 5 #[v, u] W fun e w' => e = .returned (.bool true) ∧ Below W.heap.size W w' := by
  have hl : All2 (SV.ok R) [x, y] (#[v, u] : Array Value).toList := ⟨hx, hy, trivial⟩
  have h := answers_of_good Try.func5 body5a hg hl hR
  unfold Answers at h
  refine h.mono ?_
  rintro e w' ⟨v, rfl, s', m', R', hr, _, hR', hv⟩
  exact ⟨by rw [boolR_true hr hv], below_of hR'.fr⟩
theorem adds_call {W : World} {b : ByteArray} {v : Value} (hv : BytIn W v) : Calls Try.prog 5 #[.string b, v] W fun e w' => e = .returned (.bool true) ∧ Below W.heap.size W w' := by
  rcases hv with ⟨a, c, rfl⟩ | ⟨b', off, n, cap, cs, ty, fz, rfl, hn, hl, hb, hI⟩
  · exact calls_of5 (m := M0) (ja_good0 b) ⟨rfl, rfl⟩ ⟨a, c, rfl⟩ (rel_empty gl_nil W 0)
  · exact calls_of5 (m := prM true cs ty) (ja_good b off n cs ty hI) ⟨rfl, rfl⟩ ⟨⟨b', cs.size⟩, cap, rfl, rfl, trivial, hl⟩ (rel_one gl_nil hb)
theorem adds_lifted (os : Os) (started : os.Started) (H : Type) (enc : TypeId × Value → H) :
    ReturnsInHanded {} Try.checked os 5 .any (Rows.journalAddsSpec.pre6 enc Try.prog Try.f5 Rows.journalAddsRow.domain false) (Rows.journalAddsSpec.post enc Try.prog Try.f5 false true false false) := by
  refine returnsInHanded_of_change (C := Try.checked) own started (by kernel_rfl) Try.func5
    (ChangeSpec.witness6 (enc := enc) (C := Try.checked) false ⟨#[], #[.string .empty, .slice none 0 0], []⟩ 8 (by kernel_rfl) (by kernel_rfl) (by kernel_rfl) (by kernel_rfl)) ?_
  intro W base args ds gs before hval0 hW hcnd _
  have hval : ∀ (j : Nat) t v, Try.f5.params[j]? = some t → args[j]? = some v → Value.okWide Try.prog W .any base t v := hval0
  have hW' := hW
  obtain ⟨p, q, hA0, hV, rfl, hfz, hnd⟩ := hW
  have hA : DataW.TrodAll enc Try.prog W 0 (fun _ => true) true Try.f5.params.toList args.toList ds p := hA0
  rw [Try.params5] at hA hval
  obtain ⟨v0, v1, d0, d1, p0, p1, rfl, rfl, rfl, h0, h1⟩ := trodAll_two hA
  obtain ⟨rfl, rfl⟩ := trodVars_none hV
  have h1k := h1
  obtain ⟨s, rfl, rfl, rfl, hs⟩ := Go.ChangeMaps.open_string Try.underlying9 (hval 0 9 v0 rfl rfl) h0
  obtain ⟨fu1, hf1⟩ := h1
  have k1 : BytIn W v1 := byt_in (hval 1 30 v1 rfl rfl) (by
    obtain ⟨A, len, cap, e⟩ := okWide_slice Try.underlying30 (hval 1 30 v1 rfl rfl)
    subst e
    exact hf1)
  clear hA0 hval0
  simp only [List.append_nil, List.nil_append] at hW'
  refine (adds_call k1).mono fun e' W' ⟨he, hb⟩ => ?_
  subst he
  have hlt : ∀ y ∈ p1, y.block < W.heap.size := fun y hy => by simpa using hW'.lt y (by simpa using hy)
  refine ⟨_, rfl, post_of_below (pa := p1) (pv := []) hW' (fun _ _ _ => trodAll_mk1 (shut_bool Try.underlying4 _)) (fun sp hsp => ?_) (fun _ _ => rfl) (by simp) hb (ok_one (by kernel_rfl) rfl (okWide_bool_mk Try.underlying4 _))⟩
  rw [show p1 = [] ++ p1 from rfl]
  refine trodAll_mk2 (Go.ChangeMaps.shut_string Try.underlying9 hs) ?_
  exact Go.WideElems.Trod_stays laidOut (by kernel_rfl) (of_decide_eq_true (by kernel_rfl)) h1k (fun y hy => hb.same (hlt y hy)) (fun y hy => hsp y (by simpa using hy))
theorem journalAdds_holds : Rows.JournalAddsSaid :=
  OpenClaim.holds_of_wide 5 Try.f5 rfl rfl rfl rfl rfl rfl rfl ⟨rfl, rfl, rfl, rfl, rfl⟩ rfl rfl rfl rfl rfl (by kernel_rfl) Try.func5 (by kernel_rfl)
    (of_decide_eq_true (by kernel_rfl)) (by unfold Func.isWrapper; first | (rw [if_pos (by decide +kernel)]; kernel_rfl) | (rw [if_neg (by decide +kernel)]; exact ⟨rfl, rfl⟩))
    (fun os started H enc _ => adds_lifted os started H enc)
end Go.Proofs.Ytapkbgccbmjfaaa
