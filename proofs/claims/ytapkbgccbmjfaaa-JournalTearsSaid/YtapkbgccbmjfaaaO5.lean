/- For every script, every row of bytes, every number and every byte, bailiwicklaw27.JournalTears returns true, and each argument reads behind the call as it did before. No condition. -/
import Derived.Test.YtapkbgccbmjfaaaME
import Derived.Carry
namespace Go.Proofs.Ytapkbgccbmjfaaa
set_option maxRecDepth 100000
open Go.ChangeShapes Go.WideShapes Go.ChangeAt Go.RowKit Go.Deep
theorem body7k : Try.f7.body = some (Try.f7.body.getD .skip) := rfl
theorem calls_of7 {W : World} {x y z a : SV} {m : SMem} {R : Ren} {v u t s : Value} (hg : Good Try.prog (boolR true) m.next [callFr 7 Try.f7.ntmps [x, y, z, a] (Try.f7.body.getD .skip)] m) (hx : x.ok R v) (hy : y.ok R u) (hz : z.ok R t) (ha : a.ok R s) (hR : Rel W.heap.size (fun _ => False) W R m W) :
    Calls Try.prog 7 #[v, u, t, s] W fun e w' => e = .returned (.bool true) ∧ Below W.heap.size W w' := by
  have hl : All2 (SV.ok R) [x, y, z, a] (#[v, u, t, s] : Array Value).toList := ⟨hx, hy, hz, ha, trivial⟩
  have h := answers_of_good Try.func7 body7k hg hl hR
  unfold Answers at h
  refine h.mono ?_
  rintro e w' ⟨v, rfl, s', m', R', hr, _, hR', hv⟩
  exact ⟨by rw [boolR_true hr hv], below_of hR'.fr⟩
theorem kt_good_ee (P : Int) (q : ByteArray) (e d : Int) : Good Try.prog (boolR true) 0 [callFr 7 Try.f7.ntmps [refV P (.f .e0) q, .s (.c (.f .e0)), .s (.c (.f (.int .u16 (.o e)))), .s (.c (.f (.int .u8 (.o d))))] (Try.f7.body.getD .skip)] M0 :=
  run_vc EK_ok 1000 (kt_ee P q e d) ⟨fun _ => rfl, fun _ => rfl⟩ (fun _ _ h => h) (fun _ _ h => h.elim)
theorem kt_good_er (P : Int) (q : ByteArray) (e d : Int) (o n : Nat) (cs : Array Value) (ty : TypeId) : Good Try.prog (boolR true) 1 [callFr 7 Try.f7.ntmps [refV P (.f .e0) q, .s (.c (slC 0 o n)), .s (.c (.f (.int .u16 (.o e)))), .s (.c (.f (.int .u8 (.o d))))] (Try.f7.body.getD .skip)] (prM true cs ty) :=
  run_vc EK_ok 1000 (kt_er P q e d o n cs ty) ⟨fun _ => rfl, fun _ => rfl⟩ (fun _ _ h => h) (fun _ _ h => h.elim)
theorem tears_call {W : World} {P : Int} {o u : Value} {q : ByteArray} {e d : Int} (hv : StrIn W o) (hu : BytIn2 W u) (he : 0 ≤ e ∧ e ≤ 65535) (hd : 0 ≤ d ∧ d ≤ 255) :
    Calls Try.prog 7 #[.agg #[.int .i64 P, o, .string q], u, .int .u16 e, .int .u8 d] W fun e w' => e = .returned (.bool true) ∧ Below W.heap.size W w' := by
  rcases hv with ⟨a, c, rfl⟩ | ⟨b, off, n, cap, cs, ty, fz, rfl, hn, hl, hb, hI⟩
  · rcases hu with ⟨a', c', rfl⟩ | ⟨b', off', n', cap', ds, tz, fz', rfl, hn', hl', hb', hI'⟩
    · exact calls_of7 (m := M0) (kt_good_ee P q e d) (ref_ok ⟨a, c, rfl⟩) ⟨a', c', rfl⟩ rfl rfl (rel_empty gl_nil W 0)
    · exact calls_of7 (m := prM true ds tz) (kt_good_er P q e d off' n' ds tz) (ref_ok ⟨a, c, rfl⟩) ⟨⟨b', ds.size⟩, cap', rfl, rfl, trivial, hl'⟩ rfl rfl (rel_one gl_nil hb')
  · obtain ⟨g1, ho1⟩ := rel_add (rel_empty gl_nil W 2) (onlyRead_nil 2) (i := 0) (b := b) (by decide) rfl hb
    rcases hu with ⟨a', c', rfl⟩ | ⟨b', off', n', cap', ds, tz, fz', rfl, hn', hl', hb', hI'⟩
    · obtain ⟨g2, _⟩ := rel_add g1 ho1 (i := 1) (b := b) (show 1 < 2 by decide) rfl hb
      exact calls_of7 (m := M2 cs cs ty ty) (kt_good false P off n q 0 0 e d cs cs ty ty hI (fun h => by cases h) he hd) (ref_ok ⟨⟨b, cs.size⟩, cap, rfl, rfl, trivial, hl⟩) ⟨a', c', rfl⟩ rfl rfl g2
    · obtain ⟨g2, _⟩ := rel_add g1 ho1 (i := 1) (b := b') (show 1 < 2 by decide) rfl hb'
      exact calls_of7 (m := M2 cs ds ty tz) (kt_good true P off n q off' n' e d cs ds ty tz hI (fun _ => hI') he hd) (ref_ok ⟨⟨b, cs.size⟩, cap, rfl, rfl, trivial, hl⟩) ⟨⟨b', ds.size⟩, cap', rfl, rfl, trivial, hl'⟩ rfl rfl g2
theorem tears_lifted (os : Os) (started : os.Started) (H : Type) (enc : TypeId × Value → H) :
    ReturnsInHanded {} Try.checked os 7 .any (Rows.journalTearsSpec.pre6 enc Try.prog Try.f7 Rows.journalTearsRow.domain false) (Rows.journalTearsSpec.post enc Try.prog Try.f7 false true false false) := by
  refine returnsInHanded_of_change (C := Try.checked) own started (by kernel_rfl) Try.func7
    (ChangeSpec.witness6 (enc := enc) (C := Try.checked) false ⟨#[], #[.agg #[.int .i64 0, .slice none 0 0, .string .empty], .slice none 0 0, .int .u16 0, .int .u8 0], []⟩ 8 (by kernel_rfl) (by kernel_rfl) (by kernel_rfl) (by kernel_rfl)) ?_
  intro W base args ds gs before hval0 hW hcnd _
  have hval : ∀ (j : Nat) t v, Try.f7.params[j]? = some t → args[j]? = some v → Value.okWide Try.prog W .any base t v := hval0
  have hW' := hW
  obtain ⟨p, q, hA0, hV, rfl, hfz, hnd⟩ := hW
  have hA : DataW.TrodAll enc Try.prog W 0 (fun _ => true) true Try.f7.params.toList args.toList ds p := hA0
  rw [Try.params7] at hA hval
  obtain ⟨v0, v1, v2, v3, d0, d1, d2, d3, p0, p1, p2, p3, rfl, rfl, rfl, h0, h1, h2, h3⟩ := trodAll_four hA
  obtain ⟨rfl, rfl⟩ := trodVars_none hV
  have h0k := h0
  have h1k := h1
  obtain ⟨t, rfl, rfl, rfl, wt⟩ := open_int Try.underlying50 (hval 2 50 v2 rfl rfl) h2
  obtain ⟨t2, rfl, rfl, rfl, wt2⟩ := open_int Try.underlying5 (hval 3 5 v3 rfl rfl) h3
  obtain ⟨fu0, hf0⟩ := h0
  obtain ⟨P, o, q, rfl, ho⟩ := sc_in (hval 0 24 v0 rfl rfl) hf0
  obtain ⟨fu1, hf1⟩ := h1
  have k1 : BytIn2 W v1 := byt_in2 (hval 1 30 v1 rfl rfl) (by
    obtain ⟨A, len, cap, e⟩ := okWide_slice Try.underlying30 (hval 1 30 v1 rfl rfl)
    subst e
    exact hf1)
  clear hA0 hval0
  simp only [List.append_nil] at hW'
  refine (tears_call ho k1 (wf_u16 wt) (wf_u8k wt2)).mono fun e' W' ⟨he, hb⟩ => ?_
  subst he
  have hlt : ∀ y ∈ p0 ++ p1, y.block < W.heap.size := fun y hy => by simpa using hW'.lt y (by simpa using hy)
  refine ⟨_, rfl, post_of_below (pa := p0 ++ p1) (pv := []) hW' (fun _ _ _ => trodAll_mk1 (shut_bool Try.underlying4 _)) (fun sp hsp => ?_) (fun _ _ => rfl) (by simp) hb (ok_one (by kernel_rfl) rfl (okWide_bool_mk Try.underlying4 _))⟩
  rw [show p0 ++ p1 = p0 ++ (p1 ++ ([] ++ [])) by rw [List.append_nil, List.append_nil]]
  refine trodAll_mk4 ?_ ?_ (shut_int Try.underlying50 wt) (shut_int Try.underlying5 wt2)
  · exact Go.WideElems.Trod_stays laidOut (by kernel_rfl) (of_decide_eq_true (by kernel_rfl)) h0k (fun y hy => hb.same (hlt y (by simp [hy]))) (fun y hy => hsp y (by simp [hy]))
  · exact Go.WideElems.Trod_stays laidOut (by kernel_rfl) (of_decide_eq_true (by kernel_rfl)) h1k (fun y hy => hb.same (hlt y (by simp [hy]))) (fun y hy => hsp y (by simp [hy]))
theorem journalTears_holds : Rows.JournalTearsSaid :=
  OpenClaim.holds_of_wide 7 Try.f7 rfl rfl rfl rfl rfl rfl rfl ⟨rfl, rfl, rfl, rfl, rfl⟩ rfl rfl rfl rfl rfl (by kernel_rfl) Try.func7 (by kernel_rfl)
    (of_decide_eq_true (by kernel_rfl)) (by unfold Func.isWrapper; first | (rw [if_pos (by decide +kernel)]; kernel_rfl) | (rw [if_neg (by decide +kernel)]; exact ⟨rfl, rfl⟩))
    (fun os started H enc _ => tears_lifted os started H enc)
end Go.Proofs.Ytapkbgccbmjfaaa
