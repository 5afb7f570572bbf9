/- For every script, every row of bytes and every number, bailiwicklaw27.JournalKeeps returns true, and each argument reads behind the call as it did before. No condition. -/
import Derived.Test.YtapkbgccbmjfaaaME
namespace Go.Proofs.Ytapkbgccbmjfaaa
set_option maxRecDepth 100000
open Go.ChangeShapes Go.WideShapes Go.ChangeAt Go.RowKit Go.Deep
theorem body6k : Try.f6.body = some (Try.f6.body.getD .skip) := rfl
theorem cells5k : Try.prog.cellsOf 5 = 1 := by kernel_rfl
theorem isInt_ofk {k : IntKind} {cs : Array Value} {i : Nat} {n : Int} (h : cs.toList[i]? = some (.int k n)) : IsInt k cs i ∧ intAt cs i = n := by
  rw [Array.getElem?_toList] at h
  exact ⟨(intAt_is h).2, (intAt_is h).1⟩
theorem wf_u8k {n : Int} (h : (Lit.int .u8 n).wf = true) : 0 ≤ n ∧ n ≤ 255 := by
  simp only [Lit.wf, Bool.and_eq_true, decide_eq_true_eq] at h
  exact h
theorem wf_u16 {n : Int} (h : (Lit.int .u16 n).wf = true) : 0 ≤ n ∧ n ≤ 65535 := by
  simp only [Lit.wf, Bool.and_eq_true, decide_eq_true_eq] at h
  exact h
def BytIn2 (W : World) (v : Value) : Prop :=
  (∃ a c, v = .slice a 0 c) ∨ ∃ b off n cap cs ty fz, v = .slice (some ⟨b, off, none⟩) n cap ∧ n ≠ 0 ∧ n ≤ cap ∧ W.heap[b]? = some (.cells cs ty fz) ∧ BytI cs off n
theorem byt_in2 {H : Type} {enc : TypeId × Value → H} {W : World} {base base' : Nat} {fuel : Nat} {v : Value} {held : Bool} {x : DataW H × List MemPlace}
    (hok : Value.okWide Try.prog W .any base 30 v) (h : DataW.trod enc Try.prog W base' (fun _ => true) held fuel 30 [v] = some x) : BytIn2 W v := by
  obtain ⟨A, len, cap, rfl⟩ := okWide_slice Try.underlying30 hok
  rcases slice_cells Try.underlying30 cells5k hok h with ⟨rfl, rfl, rfl⟩ | ⟨b, off, cs, ty, fz, rfl, hl, hmx, ho, hj⟩
  · exact .inl ⟨_, _, rfl⟩
  · by_cases h0 : len = 0
    · subst h0; exact .inl ⟨_, _, rfl⟩
    · refine .inr ⟨b, off, len, cap, cs, ty, fz, rfl, h0, hl, ho, ?_⟩
      have key : ∀ i, i < len → IsInt .u8 cs (off + i) ∧ 0 ≤ intAt cs (off + i) ∧ intAt cs (off + i) ≤ 255 := fun i hi => by
        obtain ⟨n, y, hy⟩ := hj i hi
        rw [Nat.mul_one] at hy
        obtain ⟨m, e, _, w⟩ := DataW.trod_int Try.underlying5 hy
        obtain ⟨a1, b1⟩ := isInt_ofk (sub_one e)
        have w := wf_u8k w
        rw [← b1] at w
        exact ⟨a1, w⟩
      exact ⟨by have : maxLen = 9223372036854775807 := rfl
                omega, fun i hi => key i hi⟩
theorem calls_of6 {W : World} {x y z : SV} {m : SMem} {R : Ren} {v u t : Value} (hg : Good Try.prog (boolR true) m.next [callFr 6 Try.f6.ntmps [x, y, z] (Try.f6.body.getD .skip)] m) (hx : x.ok R v) (hy : y.ok R u) (hz : z.ok R t) (hR : Rel W.heap.size (fun _ => False) W R m W) :
    Calls Try.prog 6 #[v, u, t] W fun e w' => e = .returned (.bool true) ∧ Below W.heap.size W w' := by
  have hl : All2 (SV.ok R) [x, y, z] (#[v, u, t] : Array Value).toList := ⟨hx, hy, hz, trivial⟩
  have h := answers_of_good Try.func6 body6k hg hl hR
  unfold Answers at h
  refine h.mono ?_
  rintro e w' ⟨v, rfl, s', m', R', hr, _, hR', hv⟩
  exact ⟨by rw [boolR_true hr hv], below_of hR'.fr⟩
theorem kp_good_ee (P : Int) (q : ByteArray) (e : Int) : Good Try.prog (boolR true) 0 [callFr 6 Try.f6.ntmps [refV P (.f .e0) q, .s (.c (.f .e0)), .s (.c (.f (.int .u16 (.o e))))] (Try.f6.body.getD .skip)] M0 :=
  run_vc EK_ok 1000 (kp_ee P q e) ⟨fun _ => rfl, fun _ => rfl⟩ (fun _ _ h => h) (fun _ _ h => h.elim)
theorem kp_good_er (P : Int) (q : ByteArray) (e : Int) (o n : Nat) (cs : Array Value) (ty : TypeId) : Good Try.prog (boolR true) 1 [callFr 6 Try.f6.ntmps [refV P (.f .e0) q, .s (.c (slC 0 o n)), .s (.c (.f (.int .u16 (.o e))))] (Try.f6.body.getD .skip)] (prM true cs ty) :=
  run_vc EK_ok 1000 (kp_er P q e o n cs ty) ⟨fun _ => rfl, fun _ => rfl⟩ (fun _ _ h => h) (fun _ _ h => h.elim)
theorem keeps_call {W : World} {P : Int} {o u : Value} {q : ByteArray} {e : Int} (hv : StrIn W o) (hu : BytIn2 W u) (he : 0 ≤ e ∧ e ≤ 65535) :
    Calls Try.prog 6 #[.agg #[.int .i64 P, o, .string q], u, .int .u16 e] W fun e w' => e = .returned (.bool true) ∧ Below W.heap.size W w' := by
  rcases hv with ⟨a, c, rfl⟩ | ⟨b, off, n, cap, cs, ty, fz, rfl, hn, hl, hb, hI⟩
  · rcases hu with ⟨a', c', rfl⟩ | ⟨b', off', n', cap', ds, tz, fz', rfl, hn', hl', hb', hI'⟩
    · exact calls_of6 (m := M0) (kp_good_ee P q e) (ref_ok ⟨a, c, rfl⟩) ⟨a', c', rfl⟩ rfl (rel_empty gl_nil W 0)
    · exact calls_of6 (m := prM true ds tz) (kp_good_er P q e off' n' ds tz) (ref_ok ⟨a, c, rfl⟩) ⟨⟨b', ds.size⟩, cap', rfl, rfl, trivial, hl'⟩ rfl (rel_one gl_nil hb')
  · obtain ⟨g1, ho1⟩ := rel_add (rel_empty gl_nil W 2) (onlyRead_nil 2) (i := 0) (b := b) (by decide) rfl hb
    rcases hu with ⟨a', c', rfl⟩ | ⟨b', off', n', cap', ds, tz, fz', rfl, hn', hl', hb', hI'⟩
    · obtain ⟨g2, _⟩ := rel_add g1 ho1 (i := 1) (b := b) (show 1 < 2 by decide) rfl hb
      exact calls_of6 (m := M2 cs cs ty ty) (kp_good false P off n q 0 0 e cs cs ty ty hI (fun h => by cases h) he) (ref_ok ⟨⟨b, cs.size⟩, cap, rfl, rfl, trivial, hl⟩) ⟨a', c', rfl⟩ rfl g2
    · obtain ⟨g2, _⟩ := rel_add g1 ho1 (i := 1) (b := b') (show 1 < 2 by decide) rfl hb'
      exact calls_of6 (m := M2 cs ds ty tz) (kp_good true P off n q off' n' e cs ds ty tz hI (fun _ => hI') he) (ref_ok ⟨⟨b, cs.size⟩, cap, rfl, rfl, trivial, hl⟩) ⟨⟨b', ds.size⟩, cap', rfl, rfl, trivial, hl'⟩ rfl g2
theorem keeps_lifted (os : Os) (started : os.Started) (H : Type) (enc : TypeId × Value → H) :
    ReturnsInHanded {} Try.checked os 6 .any (Rows.journalKeepsSpec.pre6 enc Try.prog Try.f6 Rows.journalKeepsRow.domain false) (Rows.journalKeepsSpec.post enc Try.prog Try.f6 false true false false) := by
  refine returnsInHanded_of_change (C := Try.checked) own started (by kernel_rfl) Try.func6
    (ChangeSpec.witness6 (enc := enc) (C := Try.checked) false ⟨#[], #[.agg #[.int .i64 0, .slice none 0 0, .string .empty], .slice none 0 0, .int .u16 0], []⟩ 8 (by kernel_rfl) (by kernel_rfl) (by kernel_rfl) (by kernel_rfl)) ?_
  intro W base args ds gs before hval0 hW hcnd _
  have hval : ∀ (j : Nat) t v, Try.f6.params[j]? = some t → args[j]? = some v → Value.okWide Try.prog W .any base t v := hval0
  have hW' := hW
  obtain ⟨p, q, hA0, hV, rfl, hfz, hnd⟩ := hW
  have hA : DataW.TrodAll enc Try.prog W 0 (fun _ => true) true Try.f6.params.toList args.toList ds p := hA0
  rw [Try.params6] at hA hval
  obtain ⟨v0, v1, v2, d0, d1, d2, p0, p1, p2, rfl, rfl, rfl, h0, h1, h2⟩ := trodAll_three hA
  obtain ⟨rfl, rfl⟩ := trodVars_none hV
  have h0k := h0
  have h1k := h1
  obtain ⟨t, rfl, rfl, rfl, wt⟩ := open_int Try.underlying50 (hval 2 50 v2 rfl rfl) h2
  obtain ⟨fu0, hf0⟩ := h0
  obtain ⟨P, o, q, rfl, ho⟩ := sc_in (hval 0 24 v0 rfl rfl) hf0
  obtain ⟨fu1, hf1⟩ := h1
  have k1 : BytIn2 W v1 := byt_in2 (hval 1 30 v1 rfl rfl) (by
    obtain ⟨A, len, cap, e⟩ := okWide_slice Try.underlying30 (hval 1 30 v1 rfl rfl)
    subst e
    exact hf1)
  clear hA0 hval0
  simp only [List.append_nil] at hW'
  refine (keeps_call ho k1 (wf_u16 wt)).mono fun e' W' ⟨he, hb⟩ => ?_
  subst he
  have hlt : ∀ y ∈ p0 ++ p1, y.block < W.heap.size := fun y hy => by simpa using hW'.lt y (by simpa using hy)
  refine ⟨_, rfl, post_of_below (pa := p0 ++ p1) (pv := []) hW' (fun _ _ _ => trodAll_mk1 (shut_bool Try.underlying4 _)) (fun sp hsp => ?_) (fun _ _ => rfl) (by simp) hb (ok_one (by kernel_rfl) rfl (okWide_bool_mk Try.underlying4 _))⟩
  rw [show p0 ++ p1 = p0 ++ (p1 ++ []) by rw [List.append_nil]]
  refine trodAll_mk3 ?_ ?_ (shut_int Try.underlying50 wt)
  · exact Go.WideElems.Trod_stays laidOut (by kernel_rfl) (of_decide_eq_true (by kernel_rfl)) h0k (fun y hy => hb.same (hlt y (by simp [hy]))) (fun y hy => hsp y (by simp [hy]))
  · exact Go.WideElems.Trod_stays laidOut (by kernel_rfl) (of_decide_eq_true (by kernel_rfl)) h1k (fun y hy => hb.same (hlt y (by simp [hy]))) (fun y hy => hsp y (by simp [hy]))
theorem journalKeeps_holds : Rows.JournalKeepsSaid :=
  OpenClaim.holds_of_wide 6 Try.f6 rfl rfl rfl rfl rfl rfl rfl ⟨rfl, rfl, rfl, rfl, rfl⟩ rfl rfl rfl rfl rfl (by kernel_rfl) Try.func6 (by kernel_rfl)
    (of_decide_eq_true (by kernel_rfl)) (by unfold Func.isWrapper; first | (rw [if_pos (by decide +kernel)]; kernel_rfl) | (rw [if_neg (by decide +kernel)]; exact ⟨rfl, rfl⟩))
    (fun os started H enc _ => keeps_lifted os started H enc)
end Go.Proofs.Ytapkbgccbmjfaaa
