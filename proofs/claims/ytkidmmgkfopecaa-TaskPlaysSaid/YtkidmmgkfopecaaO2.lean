/- For every string and every row of results, bailiwicklaw14.TaskPlays returns true, and each argument reads behind the call as it did before. No condition. -/
import Derived.Test.YtkidmmgkfopecaaMD
namespace Go.Proofs.Ytkidmmgkfopecaa
set_option maxRecDepth 100000
open Go.ChangeShapes Go.WideShapes Go.ChangeAt Go.RowKit Go.Deep
theorem intAt_of {k : IntKind} {cs : Array Value} {i : Nat} {n : Int} (h : cs.toList[i]? = some (.int k n)) : intAt cs i = n := by
  rw [Array.getElem?_toList] at h
  exact (intAt_is h).1
theorem wf_u64 {n : Int} (h : (Lit.int .u64 n).wf = true) : 0 ≤ n ∧ n ≤ 18446744073709551615 := by
  simp only [Lit.wf, Bool.and_eq_true, decide_eq_true_eq] at h
  exact h
theorem wf_u32 {n : Int} (h : (Lit.int .u32 n).wf = true) : 0 ≤ n ∧ n ≤ 4294967295 := by
  simp only [Lit.wf, Bool.and_eq_true, decide_eq_true_eq] at h
  exact h
theorem rng_of {H : Type} {enc : TypeId × Value → H} {W : World} {base : Nat} {held : Bool} {n : Nat} {cs : Array Value} {off i : Nat} {y : DataW H × List MemPlace}
    (h : DataW.trod enc Try.prog W base (fun _ => true) held n 53 ((cs.toList.drop (off + i * 3)).take 3) = some y) : W64 (intAt cs (off + i * 3 + 1)) ∧ (0 ≤ intAt cs (off + i * 3 + 2) ∧ intAt cs (off + i * 3 + 2) ≤ 4294967295) := by
  obtain ⟨n1, y1, h1⟩ := field_of Try.underlying53 h 1 rfl
  obtain ⟨n2, y2, h2⟩ := field_of Try.underlying53 h 2 rfl
  obtain ⟨m1, e1, _, w1⟩ := DataW.trod_int Try.underlying25 h1
  obtain ⟨m2, e2, _, w2⟩ := DataW.trod_int Try.underlying38 h2
  have b1 := intAt_of (sub_get (sub_one e1))
  have b2 := intAt_of (sub_get (sub_one e2))
  have w1 := wf_u64 w1
  have w2 := wf_u32 w2
  rw [← b1] at w1
  rw [← b2] at w2
  exact ⟨⟨w1.1, Int.lt_of_le_of_lt w1.2 (by decide)⟩, w2⟩
/-- A row of results that came in: empty, or so many cells of a block. -/
def ResInP (W : World) (v : Value) : Prop :=
  (∃ a c, v = .slice a 0 c) ∨ ∃ b off n cap cs ty fz, v = .slice (some ⟨b, off, none⟩) n cap ∧ n ≠ 0 ∧ n ≤ cap ∧ W.heap[b]? = some (.cells cs ty fz) ∧ (n ≤ 200 → ResP cs off n)
theorem resp_in {H : Type} {enc : TypeId × Value → H} {W : World} {base base' : Nat} {fuel : Nat} {v : Value} {held : Bool} {x : DataW H × List MemPlace}
    (hok : Value.okWide Try.prog W .any base 22 v) (h : DataW.trod enc Try.prog W base' (fun _ => true) held fuel 22 [v] = some x) : ResInP W v := by
  obtain ⟨A, len, cap, rfl⟩ := okWide_slice Try.underlying22 hok
  rcases slice_cells Try.underlying22 cells53 hok h with ⟨rfl, rfl, rfl⟩ | ⟨b, off, cs, ty, fz, rfl, hl, _, ho, hj⟩
  · exact .inl ⟨_, _, rfl⟩
  · by_cases h0 : len = 0
    · subst h0; exact .inl ⟨_, _, rfl⟩
    · refine .inr ⟨b, off, len, cap, cs, ty, fz, rfl, h0, hl, ho, fun hn => ⟨⟨fun i hi => ?_⟩, fun i hi => ?_⟩⟩
      · obtain ⟨n, y, hy⟩ := hj i hi
        exact res_of hy
      · obtain ⟨n, y, hy⟩ := hj i hi
        exact rng_of hy
theorem body3 : Try.f3.body = some (Try.f3.body.getD .skip) := rfl
theorem calls3_of {W : World} {x y : SV} {m : SMem} {R : Ren} {v u : Value} (hm : m.next = 1) (hg : Good Try.prog (boolR true) 1 (playC x y) m) (hx : x.ok R v) (hy : y.ok R u) (hR : Rel W.heap.size (fun _ => False) W R m W) :
    Calls Try.prog 3 #[v, u] W fun e w' => e = .returned (.bool true) ∧ Below W.heap.size W w' := by
  have hl : All2 (SV.ok R) [x, y] (#[v, u] : Array Value).toList := ⟨hx, hy, trivial⟩
  have hg : Good Try.prog (boolR true) m.next (playC x y) m := by rw [hm]; exact hg
  have h := answers_of_good Try.func3 body3 hg hl hR
  unfold Answers at h
  refine h.mono ?_
  rintro e w' ⟨v, rfl, s', m', R', hr, _, hR', hv⟩
  exact ⟨by rw [boolR_true hr hv], below_of hR'.fr⟩
theorem plays_call {W : World} {v : Value} {b : ByteArray} (hv : ResInP W v) :
    Calls Try.prog 3 #[.string b, v] W fun e w' => e = .returned (.bool true) ∧ Below W.heap.size W w' := by
  by_cases h0 : b.size = 0
  · have e := empty_of h0
    subst e
    rcases hv with ⟨a, c, rfl⟩ | ⟨b, off, n, cap, cs, ty, fz, rfl, hn, hl, hb, hI⟩
    · exact calls3_of rfl plays1 ⟨rfl, rfl⟩ ⟨a, c, rfl⟩ (rel_empty gl_nil W 1)
    · exact calls3_of rfl (plays3 hI) ⟨rfl, rfl⟩ ⟨⟨b, cs.size⟩, cap, rfl, rfl, trivial, hl⟩ (rel_one gl_nil hb)
  · rcases hv with ⟨a, c, rfl⟩ | ⟨b', off, n, cap, cs, ty, fz, rfl, hn, hl, hb, hI⟩
    · exact calls3_of rfl (plays2 h0) ⟨rfl, rfl⟩ ⟨a, c, rfl⟩ (rel_empty gl_nil W 1)
    · exact calls3_of rfl (plays4 h0 hI) ⟨rfl, rfl⟩ ⟨⟨b', cs.size⟩, cap, rfl, rfl, trivial, hl⟩ (rel_one gl_nil hb)
theorem plays_lifted (os : Os) (started : os.Started) (H : Type) (enc : TypeId × Value → H) :
    ReturnsInHanded {} Try.checked os 3 .any (Rows.taskPlaysSpec.pre6 enc Try.prog Try.f3 Rows.taskPlaysRow.domain false) (Rows.taskPlaysSpec.post enc Try.prog Try.f3 false true false false) := by
  refine returnsInHanded_of_change (C := Try.checked) own started (by kernel_rfl) Try.func3
    (ChangeSpec.witness6 (enc := enc) (C := Try.checked) false ⟨#[], #[.string .empty, .slice none 0 0], []⟩ 8 (by kernel_rfl) (by kernel_rfl) (by kernel_rfl) (by kernel_rfl)) ?_
  intro W base args ds gs before hval0 hW hcnd _
  have hval : ∀ (j : Nat) t v, Try.f3.params[j]? = some t → args[j]? = some v → Value.okWide Try.prog W .any base t v := hval0
  have hW' := hW
  obtain ⟨p, q, hA0, hV, rfl, hfz, hnd⟩ := hW
  have hA : DataW.TrodAll enc Try.prog W 0 (fun _ => true) true Try.f3.params.toList args.toList ds p := hA0
  rw [Try.params3] at hA hval
  obtain ⟨v1, v0, d1, d0, p1, p0, rfl, rfl, rfl, h1, h0⟩ := trodAll_two hA
  obtain ⟨rfl, rfl⟩ := trodVars_none hV
  have h0k := h0
  obtain ⟨s, rfl, rfl, rfl, hs⟩ := Go.ChangeMaps.open_string Try.underlying9 (hval 0 9 v1 rfl rfl) h1
  obtain ⟨fu0, hf0⟩ := h0
  have k0 : ResInP W v0 := resp_in (hval 1 22 v0 rfl rfl) (by
    obtain ⟨A, len, cap, e⟩ := okWide_slice Try.underlying22 (hval 1 22 v0 rfl rfl)
    subst e
    exact hf0)
  clear hA0 hval0
  simp only [List.nil_append, List.append_nil] at hW'
  refine (plays_call k0).mono fun e' W' ⟨he, hb⟩ => ?_
  subst he
  have hlt : ∀ y ∈ p0, y.block < W.heap.size := fun y hy => by simpa using hW'.lt y (by simpa using hy)
  refine ⟨_, rfl, post_of_below (pa := p0) (pv := []) hW' (fun _ _ _ => trodAll_mk1 (shut_bool Try.underlying4 _)) (fun sp hsp => ?_) (fun _ _ => rfl) (by simp) hb (ok_one (by kernel_rfl) rfl (okWide_bool_mk Try.underlying4 _))⟩
  rw [show p0 = [] ++ p0 from rfl]
  refine trodAll_mk2 (Go.ChangeMaps.shut_string Try.underlying9 hs) ?_
  exact Go.WideElems.Trod_stays laidOut (by kernel_rfl) (of_decide_eq_true (by kernel_rfl)) h0k (fun y hy => hb.same (hlt y hy)) (fun y hy => hsp y (by simpa using hy))
theorem taskPlays_holds : Rows.TaskPlaysSaid :=
  OpenClaim.holds_of_wide 3 Try.f3 rfl rfl rfl rfl rfl rfl rfl ⟨rfl, rfl, rfl, rfl, rfl⟩ rfl rfl rfl rfl rfl (by kernel_rfl) Try.func3 (by kernel_rfl)
    (of_decide_eq_true (by kernel_rfl)) (by unfold Func.isWrapper; first | (rw [if_pos (by decide +kernel)]; kernel_rfl) | (rw [if_neg (by decide +kernel)]; exact ⟨rfl, rfl⟩))
    (fun os started H enc _ => plays_lifted os started H enc)
end Go.Proofs.Ytkidmmgkfopecaa
