/- For every list of acts, every handle and every cell, bailiwicklaw07.CellPlays returns true, and the arguments read behind the call as they did before; the package-level table that math/bits reads holds what the program's text lays. Condition: the table, as the card ties it. -/
import Derived.Test.YtdopckcockgefaaDoorCards
import Derived.Test.YtdopckcockgefaaDoorTie
import Derived.Test.YtdopckcockgefaaDoorMA
import Derived.Test.YtdopckcockgefaaDoorI55
import Derived.SevenTiedAt
import Derived.SizedLaws
set_option linter.unusedVariables false
set_option linter.unusedSimpArgs false
namespace Go.Proofs.YtdopckcockgefaaDoor
set_option maxRecDepth 100000
open Go.ChangeShapes Go.WideShapes Go.ChangeAt Go.WideMaps Go.WideElems Go.RowKit Go.Deep
theorem body3 : Tryd.f3.body = some (Tryd.f3.body.getD .skip) := rfl
theorem cells53 : Tryd.prog.cellsOf 53 = 5 := by kernel_rfl
theorem isB_true {R : Ren} {s : SV} {m : SMem} {v : Value} (h : isB true s m) (hv : s.ok R v) : v = .bool true := by
 unfold isB at h
 split at h
 ·have hv : v = .bool _ := hv
  rw [hv, h]
 ·exact h.elim
theorem wf_u8 {n : Int} (h : (Lit.int .u8 n).wf = true) : 0 ≤ n ∧ n ≤ 255 := by
 simp only [Lit.wf, Bool.and_eq_true, decide_eq_true_eq] at h
 exact h
theorem isInt_at {k : IntKind} {cs : Array Value} {i : Nat} {n : Int} (h : cs.toList[i]? = some (.int k n)) : IsInt k cs i ∧ intAt cs i = n := by
 rw [Array.getElem?_toList] at h
 exact ⟨isI_of h, intAt_of h⟩
theorem wf_u32 {n : Int} (h : (Lit.int .u32 n).wf = true) : inH n := by
 simp only [Lit.wf, Bool.and_eq_true, decide_eq_true_eq] at h
 unfold inH
 have h1 : 0 ≤ n := h.1
 have h2 : n ≤ 4294967295 := h.2
 omega
theorem act_of {H : Type} {enc : TypeId × Value → H} {W : World} {base : Nat} {held : Bool} {n : Nat} {cs : Array Value} {p : Nat} {y : DataW H × List MemPlace}
  (h : DataW.trod enc Tryd.prog W base (fun _ => true) held n 53 ((cs.toList.drop p).take 5) = some y) : ActOk cs p := by
 obtain ⟨n0, y0, h0⟩ := field_of Tryd.underlying53 h 0 rfl
 obtain ⟨n1, y1, h1⟩ := field_of Tryd.underlying53 h 1 rfl
 obtain ⟨n2, y2, h2⟩ := field_of Tryd.underlying53 h 2 rfl
 obtain ⟨n3, y3, h3⟩ := field_of Tryd.underlying53 h 3 rfl
 obtain ⟨n4, y4, h4⟩ := field_of Tryd.underlying53 h 4 rfl
 obtain ⟨_, e0, _, w0⟩ := DataW.trod_int Tryd.underlying5 h0
 obtain ⟨_, e1, _, w1⟩ := DataW.trod_int Tryd.underlying23 h1
 obtain ⟨_, e2, _, w2⟩ := DataW.trod_int Tryd.underlying23 h2
 obtain ⟨_, e3, _, w3⟩ := DataW.trod_int Tryd.underlying23 h3
 obtain ⟨_, e4, _, _⟩ := DataW.trod_int Tryd.underlying3 h4
 obtain ⟨a0, b0⟩ := isInt_at (sub_get (sub_one e0))
 obtain ⟨a1, b1⟩ := isInt_at (sub_get (sub_one e1))
 obtain ⟨a2, b2⟩ := isInt_at (sub_get (sub_one e2))
 obtain ⟨a3, b3⟩ := isInt_at (sub_get (sub_one e3))
 have a4 := isInt_of (sub_get (sub_one e4))
 have w0 := wf_u8 w0
 have w1 := wf_u32 w1
 have w2 := wf_u32 w2
 have w3 := wf_u32 w3
 rw [← b0] at w0
 rw [← b1] at w1
 rw [← b2] at w2
 rw [← b3] at w3
 exact ⟨a0, a1, a2, a3, a4, w0, w1, w2, w3⟩
def ActsIn (W : World) (v : Value) : Prop :=
 v = .slice none 0 0 ∨ ∃ b off len cap cs ty fz, v = .slice (some ⟨b, off, none⟩) len cap ∧ len ≤ cap ∧ W.heap[b]? = some (.cells cs ty fz) ∧ ActsOk cs off len
theorem acts_in {H : Type} {enc : TypeId × Value → H} {W : World} {base base' : Nat} {fuel : Nat} {v : Value} {held : Bool} {x : DataW H × List MemPlace}
  (hok : Value.okWide Tryd.prog W .any base 22 v) (h : DataW.trod enc Tryd.prog W base' (fun _ => true) held fuel 22 [v] = some x) : ActsIn W v := by
 obtain ⟨A, len, cap, rfl⟩ := okWide_slice Tryd.underlying22 hok
 rcases slice_cells Tryd.underlying22 cells53 hok h with ⟨rfl, rfl, rfl⟩ | ⟨b, off, cs, ty, fz, rfl, hl, hm, ho, hj⟩
 ·exact .inl rfl
 ·refine .inr ⟨b, off, len, cap, cs, ty, fz, rfl, hl, ho, fun j hlt => ?_⟩
  obtain ⟨n, y, hy⟩ := hj j hlt
  exact act_of hy
theorem calls_of {W : World} {l : List SV} {args : Array Value} {m : SMem} {R : Ren} (hg : Good Tryd.prog (isB true) m.next [callFr 3 Tryd.f3.ntmps l (Tryd.f3.body.getD .skip)] m) (hl : All2 (SV.ok R) l args.toList) (hR : Rel W.heap.size (fun _ => False) W R m W) :
  Calls Tryd.prog 3 args W fun e w' => e = .returned (.bool true) ∧ Below W.heap.size W w' := by
 have h := answers_of_good Tryd.func3 body3 hg hl hR
 unfold Answers at h
 refine h.mono ?_
 rintro e w' ⟨v, rfl, s', m', R', hr, _, hR', hv⟩
 exact ⟨by rw [isB_true hr hv], below_of hR'.fr⟩
theorem play_call {W : World} {v : Value} {a b : Int} (hL : laidMetH Tryd.prog laidL W) (hv : ActsIn W v) (ha : inH a) :
  Calls Tryd.prog 3 #[v, .int .u32 a, .int .i64 b] W fun e w' => e = .returned (.bool true) ∧ Below W.heap.size W w' := by
 have h0 := rel_start hL 1
 rcases hv with rfl | ⟨k, off, n, cap, cs, ty, fz, rfl, hl, hk, hcell⟩
 ·exact calls_of (m := mkM 1 []) (plays_nil ha) ⟨⟨_, _, rfl⟩, rfl, rfl, trivial⟩ h0
 ·obtain ⟨h1, _⟩ := rel_add h0 (onlyRead_nil 1) (i := 0) (b := k) (by decide) rfl hk
  exact calls_of (m := mkM 1 [(0, ⟨.raw cs, ty, false⟩)]) (plays_run (off := off) (n := n) (ty := ty) ha hcell) ⟨⟨⟨k, cs.size⟩, cap, rfl, rfl, trivial, hl⟩, rfl, rfl, trivial⟩ h1
theorem door_play (os : Os) (args : Array Value) : laidMetH Tryd.prog laidL ((World.doorLaid Tryd.prog 400 os).forCall (fun _ _ => 0) ⟨#[], args, []⟩).memory :=
 laidMetH_of_parts3 (fuel := 8) (laidMet_of_run' 8 (by kernel_rfl) (by kernel_rfl)) (by kernel_rfl) (by kernel_rfl)
theorem play_lifted (os : Os) (started : os.Started) (H : Type) (enc : TypeId × Value → H) :
  ReturnsInHanded {} Tryd.checked os 3 .any (fun w args => (Rows.cellPlaysSpec.pre enc Tryd.prog Tryd.f3 [] false w args ∧ laidMetH Tryd.prog laidL w) ∧ sizedMet enc Tryd.prog Tryd.f3 (OpenSpec.ofChange Rows.cellPlaysSpec) false w args)
   (Rows.cellPlaysSpec.post enc Tryd.prog Tryd.f3 false true false false) := by
 refine returnsInHanded_of_change_and (C := Tryd.checked) (X := fun w _ => laidMetH Tryd.prog laidL w) (fun _ _ _ hh h => h.of_heap hh) own started (by kernel_rfl) Tryd.func3
  (ChangeSpec.witness_shaped (enc := enc) (C := Tryd.checked) (os := os) (X := fun w _ => laidMetH Tryd.prog laidL w) false (World.doorLaid Tryd.prog 400 os) #[.slice none 0 0, .int .u32 0, .int .i64 0] 8 rfl (World.shaped_of_RefB (by kernel_rfl) (by kernel_rfl)) (by kernel_rfl) (by kernel_rfl) (by kernel_rfl) (door_play os _)) ?_
 intro W base args ds gs before hval0 hW _ hsz0 hL _
 have hval : ∀ (j : Nat) t v, Tryd.f3.params[j]? = some t → args[j]? = some v → Value.okWide Tryd.prog W .any base t v := hval0
 have hW' := hW
 obtain ⟨p, q, hA0, hV, rfl, hfz, hnd⟩ := hW
 have hA : DataW.TrodAll enc Tryd.prog W 0 (fun _ => true) true Tryd.f3.params.toList args.toList ds p := hA0
 rw [Tryd.params3] at hA hval
 obtain ⟨v0, v1, v2, d0, d1, d2, p0, p1, p2, rfl, rfl, rfl, h0, h1, h2⟩ := trodAll_three hA
 obtain ⟨rfl, rfl⟩ := trodVars_none hV
 have h0k := h0
 obtain ⟨x1, rfl, rfl, rfl, w1⟩ := open_int Tryd.underlying23 (hval 1 23 v1 rfl rfl) h1
 obtain ⟨x2, rfl, rfl, rfl, w2⟩ := open_int Tryd.underlying3 (hval 2 3 v2 rfl rfl) h2
 obtain ⟨fu0, hf0⟩ := h0
 have k0 : ActsIn W v0 := acts_in (hval 0 22 v0 rfl rfl) (by
  obtain ⟨A, len, cap, e⟩ := okWide_slice Tryd.underlying22 (hval 0 22 v0 rfl rfl)
  subst e
  exact hf0)
 clear hA0 hval0
 simp only [List.append_nil] at hW'
 refine (play_call hL k0 (wf_u32 w1)).mono fun e' W' ⟨he, hb⟩ => ?_
 subst he
 have hlt : ∀ y ∈ p0, y.block < W.heap.size := fun y hy => by simpa using hW'.lt y (by simpa using hy)
 refine ⟨_, rfl, post_of_below (pa := p0) (pv := []) hW' (fun _ _ _ => trodAll_mk1 (shut_bool Tryd.underlying4 _)) (fun sp hsp => ?_) (fun _ _ => rfl) (by simp) hb (ok_one (by kernel_rfl) rfl (okWide_bool_mk Tryd.underlying4 _))⟩
 rw [show p0 = p0 ++ ([] ++ []) by simp]
 refine trodAll_mk3 ?_ (shut_int Tryd.underlying23 w1) (shut_int Tryd.underlying3 w2)
 exact Go.WideElems.Trod_stays laidOut (by kernel_rfl) (of_decide_eq_true (by kernel_rfl)) h0k (fun y hy => hb.same (hlt y hy)) (fun y hy => hsp y (by simpa using hy))
theorem cellPlays_holds : Rows.CellPlaysSaid :=
 OpenClaim.holds_of_wide 3 Tryd.f3 rfl rfl rfl rfl rfl rfl rfl ⟨rfl, rfl, rfl, rfl, rfl⟩ rfl rfl rfl rfl rfl (by kernel_rfl) Tryd.func3 (by kernel_rfl)
  (of_decide_eq_true (by kernel_rfl)) (by unfold Func.isWrapper; first | (rw [if_pos (by decide +kernel)]; kernel_rfl) | (rw [if_neg (by decide +kernel)]; exact ⟨rfl, rfl⟩))
  (fun os started H enc _ => play_lifted os started H enc)
theorem cellPlaysCard_holds : Rows.CellPlaysCardSaid :=
 Claim7.holds_tied_plain_at .later [] [.data] true (true, "bfb6c7d6013a82f3766cc5954aafef53fef1f69321c4d9084da21027a1503ec1") true
  cellPlays_holds (fun _ h => by cases h) (by kernel_rfl) (fun _ h => by cases h) cellPlays_row_tie rfl ⟨rfl, rfl⟩ (by kernel_rfl) rfl
  (fun f fn hf hfn => by
   obtain rfl : f = 3 := Option.some.inj ((show Tryd.prog.funcNamed "bailiwick/bailiwicklaw07.CellPlays" = some 3 by kernel_rfl).symm.trans hf) |>.symm
   obtain rfl : fn = Tryd.f3 := (Option.some.inj (Tryd.func3.symm.trans hfn)).symm
   exact ⟨by kernel_rfl, fun j t ht => by
    rw [Tryd.params3] at ht
    have hm : t ∈ [22, 23, 3] := by simpa using Array.mem_of_getElem? ht
    have hall : ([22, 23, 3].all fun u => !Tryd.prog.wantsStandIn u) = true := by kernel_rfl
    exact (show Tryd.prog.wantsStandIn t = false by simpa using List.all_eq_true.1 hall t hm)⟩)
  (by kernel_rfl)
end Go.Proofs.YtdopckcockgefaaDoor
