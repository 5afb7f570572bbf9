/- For every extent and all numbers, bailiwicklaw04.ExtentTells returns true, and each argument reads behind the call as it did before; the package-level table that math/bits reads holds what the program's text lays. Condition: the table, as the card ties it. -/
import Derived.Test.YtccbfkeigfnibaaDoorCards
import Derived.Test.YtccbfkeigfnibaaDoorTie
import Derived.Test.YtccbfkeigfnibaaDoorMA
import Derived.Test.YtccbfkeigfnibaaDoorMB
import Derived.SevenTiedAt
import Derived.SizedLaws
set_option linter.unusedVariables false
set_option linter.unusedSimpArgs false
namespace Go.Proofs.YtccbfkeigfnibaaDoor
set_option maxRecDepth 100000
open Go.ChangeShapes Go.WideShapes Go.ChangeAt Go.WideMaps Go.WideElems Go.RowKit Go.Deep

theorem body3 : Tryd.f3.body = some (Tryd.f3.body.getD .skip) := rfl
theorem cells43 : Tryd.prog.cellsOf 43 = 2 := by kernel_rfl
theorem boolR_true {R : Ren} {s : SV} {m : SMem} {v : Value} (h : boolR true s m) (hv : s.ok R v) : v = .bool true := by
  unfold boolR at h
  split at h
  · have hv : v = .bool _ := hv
    rw [hv, h]
  · exact h.elim
section
variable {H : Type} {enc : TypeId × Value → H} {W : World} {base : Nat} {held : Bool}
theorem pair_of {n : Nat} {cs : Array Value} {p : Nat} {y : DataW H × List MemPlace}
    (h : DataW.trod enc Tryd.prog W base (fun _ => true) held n 43 ((cs.toList.drop p).take 2) = some y) : IsInt .i64 cs p ∧ IsInt .i64 cs (p + 1) := by
  obtain ⟨xs, m1, _, _, hlen, _, hel⟩ := DataW.trod_array Tryd.underlying43 h
  have c3 : Tryd.prog.cellsOf 3 = 1 := by kernel_rfl
  have h0 := hel 0 (by decide)
  have h1 := hel 1 (by decide)
  rw [List.getElem?_eq_getElem (by omega : 0 < xs.length), c3] at h0
  rw [List.getElem?_eq_getElem (by omega : 1 < xs.length), c3] at h1
  obtain ⟨_, e0, _⟩ := DataW.trod_int Tryd.underlying3 h0
  obtain ⟨_, e1, _⟩ := DataW.trod_int Tryd.underlying3 h1
  exact ⟨isInt_of (sub_get (sub_one e0)), isInt_of (sub_get (sub_one e1))⟩
end
/-- A row of pairs that came in: empty, or so many cells of a block. -/
def PrIn (W : World) (v : Value) : Prop :=
  (∃ a c, v = .slice a 0 c) ∨ ∃ b off n cap cs ty fz, v = .slice (some ⟨b, off, none⟩) n cap ∧ n ≠ 0 ∧ n ≤ cap ∧ W.heap[b]? = some (.cells cs ty fz) ∧ off + n * 2 ≤ cs.size ∧ ∀ i, i < n → IsInt .i64 cs (off + i * 2) ∧ IsInt .i64 cs (off + i * 2 + 1)
theorem pr_in {H : Type} {enc : TypeId × Value → H} {W : World} {base base' : Nat} {fuel : Nat} {v : Value} {held : Bool} {x : DataW H × List MemPlace}
    (hok : Value.okWide Tryd.prog W .any base 22 v) (h : DataW.trod enc Tryd.prog W base' (fun _ => true) held fuel 22 [v] = some x) : PrIn W v := by
  obtain ⟨A, len, cap, rfl⟩ := okWide_slice Tryd.underlying22 hok
  rcases slice_cells Tryd.underlying22 cells43 hok h with ⟨rfl, rfl, rfl⟩ | ⟨b, off, cs, ty, fz, rfl, hl, _, ho, hj⟩
  · exact .inl ⟨_, _, rfl⟩
  · by_cases h0 : len = 0
    · subst h0; exact .inl ⟨_, _, rfl⟩
    · have hE : ∀ i, i < len → IsInt .i64 cs (off + i * 2) ∧ IsInt .i64 cs (off + i * 2 + 1) := fun i hi => by
        obtain ⟨n, y, hy⟩ := hj i hi
        exact pair_of hy
      refine .inr ⟨b, off, len, cap, cs, ty, fz, rfl, h0, hl, ho, ?_, hE⟩
      have := (Array.getElem?_eq_some_iff.1 (hE (len - 1) (by omega)).2).1
      omega
/-- An extent that came in. -/
theorem ext_in {H : Type} {enc : TypeId × Value → H} {W : World} {base base' : Nat} {fuel : Nat} {v : Value} {held : Bool} {x : DataW H × List MemPlace}
    (hok : Value.okWide Tryd.prog W .any base 24 v) (h : DataW.trod enc Tryd.prog W base' (fun _ => true) held fuel 24 v.cells.toList = some x) : ∃ r L, v = .agg #[r, .int .i64 L] ∧ PrIn W r := by
  have hok' := hok
  simp only [Value.okWide, Tryd.underlying24] at hok'
  obtain ⟨cs, rfl, hsz, ts, hts, _, hcells⟩ := hok'
  have e6 : Tryd.prog.cellsOf 24 = 2 := by kernel_rfl
  rw [e6] at hsz
  have et : Tryd.prog.cellTypes Tryd.prog.depth 24 = some [22, 3] := by kernel_rfl
  rw [et] at hts
  cases hts
  have h : DataW.trod enc Tryd.prog W base' (fun _ => true) held fuel 24 cs.toList = some x := h
  obtain ⟨l, rfl⟩ : ∃ l : List Value, cs = l.toArray := ⟨cs.toList, by simp⟩
  match l, hsz with
  | [c0, c1], _ =>
    obtain ⟨_, k0, q0⟩ := hcells 0 c0 rfl
    obtain ⟨_, k1, q1⟩ := hcells 1 c1 rfl
    cases k0; cases k1
    have toV : ∀ {t : TypeId} {c : Value} {d : TypeDesc}, Tryd.prog.underlying t = some d → isA d = false → Cell.okWide Tryd.prog W .any base t c → Value.okWide Tryd.prog W .any base t c := by
      intro t c d hu hd hc
      unfold Value.okWide
      rw [hu]
      cases d <;> first | exact hc | cases hd
    obtain ⟨n1, rfl⟩ := okWide_int Tryd.underlying3 (toV Tryd.underlying3 rfl q1)
    refine ⟨c0, n1, rfl, ?_⟩
    obtain ⟨n0, y0, h0⟩ := field_of Tryd.underlying24 h 0 rfl
    have e1 : Tryd.prog.cellsOf 22 = 1 := by kernel_rfl
    have h0 : DataW.trod enc Tryd.prog W base' (fun _ => true) held n0 22 ((List.drop 0 [c0, .int .i64 n1]).take (Tryd.prog.cellsOf 22)) = some y0 := h0
    rw [e1] at h0
    exact pr_in (toV Tryd.underlying22 rfl q0) h0
theorem calls_of {W : World} {l : List SV} {args : Array Value} {m : SMem} {R : Ren} (hg : Good Tryd.prog (boolR true) m.next [callFr 3 Tryd.f3.ntmps l (Tryd.f3.body.getD .skip)] m) (hl : All2 (SV.ok R) l args.toList) (hR : Rel W.heap.size (fun _ => False) W R m W) :
    Calls Tryd.prog 3 args W fun e w' => e = .returned (.bool true) ∧ Below W.heap.size W w' := by
  have h := answers_of_good Tryd.func3 body3 hg hl hR
  unfold Answers at h
  refine h.mono ?_
  rintro e w' ⟨v, rfl, s', m', R', hr, _, hR', hv⟩
  exact ⟨by rw [boolR_true hr hv], below_of hR'.fr⟩
/-- More chunks than the law asks about: the closed test alone. -/
theorem far_good {off n : Nat} {L s a t pg pn : Int} {cs : Array Value} {ty : TypeId} (hn : 80 < n) : Good Tryd.prog (boolR true) 1 (tlC (extS off n L) s a t pg pn) (rwM true cs ty) := by
  refine run_vc cutE_ok 1000 (tl_0 off n L s a t pg pn cs ty (fun _ => False)) ?_ (fun _ _ h => h) (fun _ _ hb => n10_good (fun _ h => h.elim) hb)
  refine ⟨fun _ => rfl, fun hd => ?_⟩
  have := of_decide_eq_false hd
  omega
theorem tells_call {W : World} {r : Value} {L s a t pg pn : Int} (hL : laidMetH Tryd.prog laidL W) (hv : PrIn W r) (ht : -9223372036854775808 ≤ t ∧ t ≤ 9223372036854775807) :
    Calls Tryd.prog 3 #[.agg #[r, .int .i64 L], .int .i64 s, .int .i64 a, .int .i64 t, .int .i64 pg, .int .i64 pn] W fun e w' => e = .returned (.bool true) ∧ Below W.heap.size W w' := by
  have h0 := rel_start hL 1
  rcases hv with ⟨a', c', rfl⟩ | ⟨bl, off, n, cap, cs, ty, fz, rfl, hn, hl, hb, hsz, hE⟩
  · exact calls_of (m := ⟨1, .nil, []⟩) (g00 L s a t pg pn) ⟨⟨_, rfl, ⟨a', c', rfl⟩, rfl, trivial⟩, rfl, rfl, rfl, rfl, rfl, trivial⟩ h0
  · obtain ⟨h1, _⟩ := rel_add h0 (onlyRead_nil 1) (i := 0) (b := bl) (by decide) rfl hb
    have hg : Good Tryd.prog (boolR true) 1 (tlC (extS off n L) s a t pg pn) (rwM true cs ty) := by
      by_cases h80 : n ≤ 80
      · exact g0 ty L s a t pg pn ⟨hsz, h80, fun i hi => (hE i hi).1, fun i hi => (hE i hi).2⟩ hn ht
      · exact far_good (by omega)
    exact calls_of (m := rwM true cs ty) hg ⟨⟨_, rfl, ⟨⟨bl, cs.size⟩, cap, rfl, rfl, trivial, hl⟩, rfl, trivial⟩, rfl, rfl, rfl, rfl, rfl, trivial⟩ h1
section
variable {H : Type} {enc : TypeId × Value → H} {P : Program} {w : World} {base : Nat} {spare : Nat → Bool} {held : Bool}
theorem trodAll_six' {t0 t1 t2 t3 t4 t5 : TypeId} {args : Array Value} {ds : List (DataW H)} {ps : List MemPlace} (h : DataW.TrodAll enc P w base spare held [t0, t1, t2, t3, t4, t5] args.toList ds ps) :
    ∃ v0 v1 v2 v3 v4 v5 d0 d1 d2 d3 d4 d5 p0 p1 p2 p3 p4 p5, args = #[v0, v1, v2, v3, v4, v5] ∧ ds = [d0, d1, d2, d3, d4, d5] ∧ ps = p0 ++ (p1 ++ (p2 ++ (p3 ++ (p4 ++ (p5 ++ []))))) ∧ DataW.Trod enc P w base spare held t0 v0 d0 p0 ∧ DataW.Trod enc P w base spare held t1 v1 d1 p1 ∧
      DataW.Trod enc P w base spare held t2 v2 d2 p2 ∧ DataW.Trod enc P w base spare held t3 v3 d3 p3 ∧ DataW.Trod enc P w base spare held t4 v4 d4 p4 ∧ DataW.Trod enc P w base spare held t5 v5 d5 p5 := by
  obtain ⟨v0, vs0, d0, ds0, p0, q0, hargs, rfl, rfl, h0, r0⟩ := trodAll_cons h
  obtain ⟨v1, vs1, d1, ds1, p1, q1, rfl, rfl, rfl, h1, r1⟩ := trodAll_cons r0
  obtain ⟨v2, vs2, d2, ds2, p2, q2, rfl, rfl, rfl, h2, r2⟩ := trodAll_cons r1
  obtain ⟨v3, vs3, d3, ds3, p3, q3, rfl, rfl, rfl, h3, r3⟩ := trodAll_cons r2
  obtain ⟨v4, vs4, d4, ds4, p4, q4, rfl, rfl, rfl, h4, r4⟩ := trodAll_cons r3
  obtain ⟨v5, vs5, d5, ds5, p5, q5, rfl, rfl, rfl, h5, r5⟩ := trodAll_cons r4
  obtain ⟨rfl, rfl, rfl⟩ := trodAll_nil r5
  exact ⟨v0, v1, v2, v3, v4, v5, d0, d1, d2, d3, d4, d5, p0, p1, p2, p3, p4, p5, by cases args; simp_all, rfl, rfl, h0, h1, h2, h3, h4, h5⟩
end
theorem door_tells (os : Os) (args : Array Value) : laidMetH Tryd.prog laidL ((World.doorLaid Tryd.prog 400 os).forCall (fun _ _ => 0) ⟨#[], args, []⟩).memory :=
  laidMetH_of_parts3 (fuel := 8) (laidMet_of_run' 8 (by kernel_rfl) (by kernel_rfl)) (by kernel_rfl) (by kernel_rfl)
theorem wf_i64 {n : Int} (h : (Lit.int .i64 n).wf = true) : -9223372036854775808 ≤ n ∧ n ≤ 9223372036854775807 := by
  simp only [Lit.wf, Bool.and_eq_true, decide_eq_true_eq] at h
  exact h
theorem tells_lifted (os : Os) (started : os.Started) (H : Type) (enc : TypeId × Value → H) :
    ReturnsInHanded {} Tryd.checked os 3 .any (fun w args => (Rows.extentTellsSpec.pre enc Tryd.prog Tryd.f3 [] false w args ∧ laidMetH Tryd.prog laidL w) ∧ sizedMet enc Tryd.prog Tryd.f3 (OpenSpec.ofChange Rows.extentTellsSpec) false w args)
      (Rows.extentTellsSpec.post enc Tryd.prog Tryd.f3 false true false false) := by
  refine returnsInHanded_of_change_and (C := Tryd.checked) (X := fun w _ => laidMetH Tryd.prog laidL w) (fun _ _ _ hh h => h.of_heap hh) own started (by kernel_rfl) Tryd.func3
    (ChangeSpec.witness_shaped (enc := enc) (C := Tryd.checked) (os := os) (X := fun w _ => laidMetH Tryd.prog laidL w) false (World.doorLaid Tryd.prog 400 os) #[.agg #[.slice none 0 0, .int .i64 0], .int .i64 0, .int .i64 0, .int .i64 0, .int .i64 0, .int .i64 0] 8 rfl (World.shaped_of_RefB (by kernel_rfl) (by kernel_rfl)) (by kernel_rfl) (by kernel_rfl) (by kernel_rfl) (door_tells os _)) ?_
  intro W base args ds gs before hval0 hW _ _ hL _
  have hval : ∀ (j : Nat) t v, Tryd.f3.params[j]? = some t → args[j]? = some v → Value.okWide Tryd.prog W .any base t v := hval0
  have hW' := hW
  obtain ⟨p, q, hA0, hV, rfl, hfz, hnd⟩ := hW
  have hA : DataW.TrodAll enc Tryd.prog W 0 (fun _ => true) true Tryd.f3.params.toList args.toList ds p := hA0
  rw [Tryd.params3] at hA hval
  obtain ⟨v0, v1, v2, v3, v4, v5, d0, d1, d2, d3, d4, d5, p0, p1, p2, p3, p4, p5, rfl, rfl, rfl, h0, h1, h2, h3, h4, h5⟩ := trodAll_six' hA
  obtain ⟨rfl, rfl⟩ := trodVars_none hV
  have h0k := h0
  obtain ⟨s, rfl, rfl, rfl, w1⟩ := open_int Tryd.underlying3 (hval 1 3 v1 rfl rfl) h1
  obtain ⟨a, rfl, rfl, rfl, w2⟩ := open_int Tryd.underlying3 (hval 2 3 v2 rfl rfl) h2
  obtain ⟨t, rfl, rfl, rfl, w3⟩ := open_int Tryd.underlying3 (hval 3 3 v3 rfl rfl) h3
  obtain ⟨pg, rfl, rfl, rfl, w4⟩ := open_int Tryd.underlying3 (hval 4 3 v4 rfl rfl) h4
  obtain ⟨pn, rfl, rfl, rfl, w5⟩ := open_int Tryd.underlying3 (hval 5 3 v5 rfl rfl) h5
  obtain ⟨fu0, hf0⟩ := h0
  obtain ⟨r, L, rfl, hv⟩ := ext_in (hval 0 24 v0 rfl rfl) hf0
  clear hA0 hval0
  simp only [List.append_nil] at hW'
  refine (tells_call hL hv (wf_i64 w3)).mono fun e' W' ⟨he, hb⟩ => ?_
  subst he
  have hlt : ∀ y ∈ p0, y.block < W.heap.size := fun y hy => by simpa using hW'.lt y (by simpa using hy)
  refine ⟨_, rfl, post_of_below (pa := p0) (pv := []) hW' (fun _ _ _ => trodAll_mk1 (shut_bool Tryd.underlying4 _)) (fun sp hsp => ?_) (fun _ _ => rfl) (by simp) hb (ok_one (by kernel_rfl) rfl (okWide_bool_mk Tryd.underlying4 _))⟩
  rw [show p0 = p0 ++ ([] ++ ([] ++ ([] ++ ([] ++ ([] ++ []))))) from (List.append_nil p0).symm]
  refine trodAll_cons_mk ?_ (trodAll_cons_mk (shut_int Tryd.underlying3 w1) (trodAll_cons_mk (shut_int Tryd.underlying3 w2) (trodAll_cons_mk (shut_int Tryd.underlying3 w3) (trodAll_cons_mk (shut_int Tryd.underlying3 w4) (trodAll_cons_mk (shut_int Tryd.underlying3 w5) trodAll_mk0)))))
  exact Go.WideElems.Trod_stays laidOut (by kernel_rfl) (of_decide_eq_true (by kernel_rfl)) h0k (fun y hy => hb.same (hlt y hy)) (fun y hy => hsp y (by simpa using hy))
theorem extentTells_holds : Rows.ExtentTellsSaid :=
  OpenClaim.holds_of_wide 3 Tryd.f3 rfl rfl rfl rfl rfl rfl rfl ⟨rfl, rfl, rfl, rfl, rfl⟩ rfl rfl rfl rfl rfl (by kernel_rfl) Tryd.func3 jf_all
    (of_decide_eq_true (by kernel_rfl)) (by unfold Func.isWrapper; first | (rw [if_pos (by decide +kernel)]; kernel_rfl) | (rw [if_neg (by decide +kernel)]; exact ⟨rfl, rfl⟩))
    (fun os started H enc _ => tells_lifted os started H enc)
theorem extentTellsCard_holds : Rows.ExtentTellsCardSaid :=
  Claim7.holds_tied_plain_at .later [] [.data] true (true, "1f5aed1d934e0e6fa5740218345828ca69c6a62e6837ce1523d899b8c48640a0") false
    extentTells_holds (fun _ h => by cases h) (by kernel_rfl) (fun _ h => by cases h) extentTells_row_tie rfl ⟨rfl, rfl⟩ (by kernel_rfl) rfl
    (fun f fn hf hfn => by
      obtain rfl : f = 3 := Option.some.inj ((show Tryd.prog.funcNamed "bailiwick/bailiwicklaw04.ExtentTells" = some 3 by kernel_rfl).symm.trans hf) |>.symm
      obtain rfl : fn = Tryd.f3 := (Option.some.inj (Tryd.func3.symm.trans hfn)).symm
      exact ⟨by kernel_rfl, fun j t ht => by
        rw [Tryd.params3] at ht
        have hm : t ∈ [24, 3, 3, 3, 3, 3] := by simpa using Array.mem_of_getElem? ht
        have hall : ([24, 3, 3, 3, 3, 3].all fun u => !Tryd.prog.wantsStandIn u) = true := by kernel_rfl
        exact (show Tryd.prog.wantsStandIn t = false by simpa using List.all_eq_true.1 hall t hm)⟩)
    (by kernel_rfl)
end Go.Proofs.YtccbfkeigfnibaaDoor
