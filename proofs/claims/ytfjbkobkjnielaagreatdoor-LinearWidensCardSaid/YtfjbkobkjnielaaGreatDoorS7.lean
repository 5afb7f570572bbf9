/- For every row of events and every number, bailiwicklaw32.LinearWidens returns true, and each argument reads behind the call as it did before; the package-level table that math/bits reads holds what the program's text lays. Condition: the table, as the card ties it. -/
import Derived.Test.YtfjbkobkjnielaaGreatDoorCards
import Derived.Test.YtfjbkobkjnielaaGreatDoorTie
import Derived.Test.YtfjbkobkjnielaaGreatDoorMA
import Derived.SevenTiedAt
import Derived.SizedLaws
namespace Go.Proofs.YtfjbkobkjnielaaGreatDoor
set_option maxRecDepth 100000
open Go.ChangeShapes Go.WideShapes Go.ChangeAt Go.WideMaps Go.WideElems Go.RowKit Go.Deep

theorem body3 : Tryz.f3.body = some (Tryz.f3.body.getD .skip) := rfl
theorem cells35 : Tryz.prog.cellsOf 35 = 14 := by kernel_rfl
theorem boolR_true {R : Ren} {s : SV} {m : SMem} {v : Value} (h : boolR true s m) (hv : s.ok R v) : v = .bool true := by
  unfold boolR at h
  split at h
  · have hv : v = .bool _ := hv
    rw [hv, h]
  · exact h.elim
section
variable {H : Type} {enc : TypeId × Value → H} {W : World} {base : Nat} {held : Bool}
theorem ev_of {n : Nat} {cs : Array Value} {p : Nat} {y : DataW H × List MemPlace}
    (h : DataW.trod enc Tryz.prog W base (fun _ => true) held n 35 ((cs.toList.drop p).take 14) = some y) : EvAt cs p := by
  obtain ⟨n0, y0, h0⟩ := field_of Tryz.underlying35 h 0 rfl
  obtain ⟨n1, y1, h1⟩ := field_of Tryz.underlying35 h 1 rfl
  obtain ⟨n2, y2, h2⟩ := field_of Tryz.underlying35 h 2 rfl
  obtain ⟨n3, y3, h3⟩ := field_of Tryz.underlying35 h 3 rfl
  obtain ⟨n4, y4, h4⟩ := field_of Tryz.underlying35 h 4 rfl
  obtain ⟨n5, y5, h5⟩ := field_of Tryz.underlying35 h 5 rfl
  obtain ⟨_, _, a1⟩ := field_of Tryz.underlying28 h1 0 rfl
  obtain ⟨_, _, a2⟩ := field_of Tryz.underlying28 h1 1 rfl
  obtain ⟨_, _, a3⟩ := field_of Tryz.underlying28 h1 2 rfl
  obtain ⟨_, _, a4⟩ := field_of Tryz.underlying28 h1 3 rfl
  obtain ⟨_, _, a5⟩ := field_of Tryz.underlying28 h1 4 rfl
  obtain ⟨_, _, a6⟩ := field_of Tryz.underlying28 h1 5 rfl
  obtain ⟨_, _, a7⟩ := field_of Tryz.underlying30 h2 0 rfl
  obtain ⟨_, _, a8⟩ := field_of Tryz.underlying30 h2 1 rfl
  obtain ⟨_, _, a9⟩ := field_of Tryz.underlying33 h3 0 rfl
  obtain ⟨_, _, a10⟩ := field_of Tryz.underlying33 h3 1 rfl
  obtain ⟨_, _, a11⟩ := field_of Tryz.underlying33 h3 2 rfl
  obtain ⟨_, e0, _⟩ := DataW.trod_int Tryz.underlying3 h0
  obtain ⟨_, e1, _⟩ := DataW.trod_int Tryz.underlying5 a1
  obtain ⟨_, e2, _⟩ := DataW.trod_int Tryz.underlying25 a2
  obtain ⟨_, e3, _⟩ := DataW.trod_int Tryz.underlying25 a3
  obtain ⟨_, e4, _⟩ := DataW.trod_int Tryz.underlying24 a4
  obtain ⟨_, e5, _⟩ := DataW.trod_int Tryz.underlying24 a5
  obtain ⟨_, e6, _⟩ := DataW.trod_int Tryz.underlying26 a6
  obtain ⟨_, e7, _⟩ := DataW.trod_int Tryz.underlying3 a7
  obtain ⟨_, e8, _⟩ := DataW.trod_int Tryz.underlying3 a8
  obtain ⟨_, e9, _⟩ := DataW.trod_int Tryz.underlying31 a9
  obtain ⟨_, e10, _⟩ := DataW.trod_int Tryz.underlying26 a10
  obtain ⟨_, e11, _⟩ := DataW.trod_int Tryz.underlying25 a11
  obtain ⟨_, e12, _⟩ := DataW.trod_int Tryz.underlying3 h4
  obtain ⟨_, e13, _⟩ := DataW.trod_int Tryz.underlying3 h5
  exact ⟨isInt_of (sub_get (sub_one e0)), isInt_of (sub_get (sub_get (sub_one e1))), isInt_of (sub_get (sub_get (sub_one e2))), isInt_of (sub_get (sub_get (sub_one e3))), isInt_of (sub_get (sub_get (sub_one e4))),
    isInt_of (sub_get (sub_get (sub_one e5))), isInt_of (sub_get (sub_get (sub_one e6))), isInt_of (sub_get (sub_get (sub_one e7))), isInt_of (sub_get (sub_get (sub_one e8))), isInt_of (sub_get (sub_get (sub_one e9))),
    isInt_of (sub_get (sub_get (sub_one e10))), isInt_of (sub_get (sub_get (sub_one e11))), isInt_of (sub_get (sub_one e12)), isInt_of (sub_get (sub_one e13))⟩
end
/-- A row of events that came in: nil, or so many cells of a block. -/
def EvIn (W : World) (v : Value) : Prop :=
  v = .slice none 0 0 ∨ ∃ b off n cap cs ty fz, v = .slice (some ⟨b, off, none⟩) n cap ∧ n ≤ cap ∧ W.heap[b]? = some (.cells cs ty fz) ∧ (n = 0 ∨ EvOk cs off n)
theorem ev_in {H : Type} {enc : TypeId × Value → H} {W : World} {base base' : Nat} {fuel : Nat} {v : Value} {held : Bool} {x : DataW H × List MemPlace}
    (hok : Value.okWide Tryz.prog W .any base 22 v) (h : DataW.trod enc Tryz.prog W base' (fun _ => true) held fuel 22 [v] = some x) : EvIn W v := by
  obtain ⟨A, len, cap, rfl⟩ := okWide_slice Tryz.underlying22 hok
  rcases slice_cells Tryz.underlying22 cells35 hok h with ⟨rfl, rfl, rfl⟩ | ⟨b, off, cs, ty, fz, rfl, hl, _, ho, hj⟩
  · exact .inl rfl
  · refine .inr ⟨b, off, len, cap, cs, ty, fz, rfl, hl, ho, ?_⟩
    by_cases h0 : len = 0
    · exact .inl h0
    · have hE : ∀ i, i < len → EvAt cs (off + i * 14) := fun i hi => by
        obtain ⟨n, y, hy⟩ := hj i hi
        exact ev_of hy
      refine .inr ⟨?_, hE⟩
      have k := (hE (len - 1) (by omega)).c13
      have := (Array.getElem?_eq_some_iff.1 k).1
      omega
theorem calls_of {W : World} {l : List SV} {args : Array Value} {m : SMem} {R : Ren} (hg : Good Tryz.prog (boolR true) m.next [callFr 3 Tryz.f3.ntmps l (Tryz.f3.body.getD .skip)] m) (hl : All2 (SV.ok R) l args.toList) (hR : Rel W.heap.size (fun _ => False) W R m W) :
    Calls Tryz.prog 3 args W fun e w' => e = .returned (.bool true) ∧ Below W.heap.size W w' := by
  have h := answers_of_good Tryz.func3 body3 hg hl hR
  unfold Answers at h
  refine h.mono ?_
  rintro e w' ⟨v, rfl, s', m', R', hr, _, hR', hv⟩
  exact ⟨by rw [boolR_true hr hv], below_of hR'.fr⟩
theorem widens_call {W : World} {v : Value} {b : Int} (hL : laidMetH Tryz.prog laidL W) (hv : EvIn W v) :
    Calls Tryz.prog 3 #[v, .int .i64 b] W fun e w' => e = .returned (.bool true) ∧ Below W.heap.size W w' := by
  have h0 := rel_start hL 1
  rcases hv with rfl | ⟨bl, off, n, cap, cs, ty, fz, rfl, hl, hb, hE⟩
  · exact calls_of (m := ⟨1, .nil, []⟩) (law_good0 b) ⟨⟨rfl, rfl⟩, rfl, trivial⟩ h0
  · obtain ⟨h1, _⟩ := rel_add h0 (onlyRead_nil 1) (i := 0) (b := bl) (by decide) rfl hb
    rcases hE with rfl | hE
    · exact calls_of (m := prM cs ty) (zero_good off cs ty b) ⟨⟨⟨bl, cs.size⟩, cap, rfl, rfl, trivial, hl⟩, rfl, trivial⟩ h1
    · exact calls_of (m := prM cs ty) (law_good fun _ => hE) ⟨⟨⟨bl, cs.size⟩, cap, rfl, rfl, trivial, hl⟩, rfl, trivial⟩ h1
theorem door_widens (os : Os) (args : Array Value) : laidMetH Tryz.prog laidL ((World.doorLaid Tryz.prog 400 os).forCall (fun _ _ => 0) ⟨#[], args, []⟩).memory :=
  laidMetH_of_parts3 (fuel := 8) (laidMet_of_run' 8 (by kernel_rfl) (by kernel_rfl)) (by kernel_rfl) (by kernel_rfl)
theorem widens_lifted (os : Os) (started : os.Started) (H : Type) (enc : TypeId × Value → H) :
    ReturnsInHanded {} Tryz.checked os 3 .any (fun w args => (Rows.linearWidensSpec.pre enc Tryz.prog Tryz.f3 [] false w args ∧ laidMetH Tryz.prog laidL w) ∧ sizedMet enc Tryz.prog Tryz.f3 (OpenSpec.ofChange Rows.linearWidensSpec) false w args)
      (Rows.linearWidensSpec.post enc Tryz.prog Tryz.f3 false true false false) := by
  refine returnsInHanded_of_change_and (C := Tryz.checked) (X := fun w _ => laidMetH Tryz.prog laidL w) (fun _ _ _ hh h => h.of_heap hh) own started (by kernel_rfl) Tryz.func3
    (ChangeSpec.witness_shaped (enc := enc) (C := Tryz.checked) (os := os) (X := fun w _ => laidMetH Tryz.prog laidL w) false (World.doorLaid Tryz.prog 400 os) #[.slice none 0 0, .int .i64 0] 8 rfl (World.shaped_of_RefB (by kernel_rfl) (by kernel_rfl)) (by kernel_rfl) (by kernel_rfl) (by kernel_rfl) (door_widens os _)) ?_
  intro W base args ds gs before hval0 hW _ _ hL _
  have hval : ∀ (j : Nat) t v, Tryz.f3.params[j]? = some t → args[j]? = some v → Value.okWide Tryz.prog W .any base t v := hval0
  have hW' := hW
  obtain ⟨p, q, hA0, hV, rfl, hfz, hnd⟩ := hW
  have hA : DataW.TrodAll enc Tryz.prog W 0 (fun _ => true) true Tryz.f3.params.toList args.toList ds p := hA0
  rw [Tryz.params3] at hA hval
  obtain ⟨v0, v1, d0, d1, p0, p1, rfl, rfl, rfl, h0, h1⟩ := trodAll_two hA
  obtain ⟨rfl, rfl⟩ := trodVars_none hV
  have h0k := h0
  obtain ⟨b, rfl, rfl, rfl, wb⟩ := open_int Tryz.underlying3 (hval 1 3 v1 rfl rfl) h1
  obtain ⟨fu0, hf0⟩ := h0
  have hv : EvIn W v0 := by
    have hok := hval 0 22 v0 rfl rfl
    obtain ⟨A, len, cap, rfl⟩ := okWide_slice Tryz.underlying22 hok
    exact ev_in hok hf0
  clear hA0 hval0
  simp only [List.append_nil] at hW'
  refine (widens_call hL hv).mono fun e' W' ⟨he, hb⟩ => ?_
  subst he
  have hlt : ∀ y ∈ p0, y.block < W.heap.size := fun y hy => by simpa using hW'.lt y (by simpa using hy)
  refine ⟨_, rfl, post_of_below (pa := p0) (pv := []) hW' (fun _ _ _ => trodAll_mk1 (shut_bool Tryz.underlying4 _)) (fun sp hsp => ?_) (fun _ _ => rfl) (by simp) hb (ok_one (by kernel_rfl) rfl (okWide_bool_mk Tryz.underlying4 _))⟩
  rw [show p0 = p0 ++ [] from (List.append_nil p0).symm]
  refine trodAll_mk2 ?_ (shut_int Tryz.underlying3 wb)
  exact Go.WideElems.Trod_stays laidOut (by kernel_rfl) (of_decide_eq_true (by kernel_rfl)) h0k (fun y hy => hb.same (hlt y hy)) (fun y hy => hsp y (by simpa using hy))
theorem linearWidens_holds : Rows.LinearWidensSaid :=
  OpenClaim.holds_of_wide 3 Tryz.f3 rfl rfl rfl rfl rfl rfl rfl ⟨rfl, rfl, rfl, rfl, rfl⟩ rfl rfl rfl rfl rfl (by kernel_rfl) Tryz.func3 jf_all
    (of_decide_eq_true (by kernel_rfl)) (by unfold Func.isWrapper; first | (rw [if_pos (by decide +kernel)]; kernel_rfl) | (rw [if_neg (by decide +kernel)]; exact ⟨rfl, rfl⟩))
    (fun os started H enc _ => widens_lifted os started H enc)
theorem linearWidensCard_holds : Rows.LinearWidensCardSaid :=
  Claim7.holds_tied_plain_at .later [] [.data] true (true, "616aa12b9529ae5eba778437a5f6b35e68272125266419f3f90b5540630b8707") true
    linearWidens_holds (fun _ h => by cases h) (by kernel_rfl) (fun _ h => by cases h) linearWidens_row_tie rfl ⟨rfl, rfl⟩ (by kernel_rfl) rfl
    (fun f fn hf hfn => by
      obtain rfl : f = 3 := Option.some.inj ((show Tryz.prog.funcNamed "bailiwick/bailiwicklaw32.LinearWidens" = some 3 by kernel_rfl).symm.trans hf) |>.symm
      obtain rfl : fn = Tryz.f3 := (Option.some.inj (Tryz.func3.symm.trans hfn)).symm
      exact ⟨by kernel_rfl, fun j t ht => by
        rw [Tryz.params3] at ht
        have hm : t ∈ [22, 3] := by simpa using Array.mem_of_getElem? ht
        have hall : ([22, 3].all fun u => !Tryz.prog.wantsStandIn u) = true := by kernel_rfl
        exact (show Tryz.prog.wantsStandIn t = false by simpa using List.all_eq_true.1 hall t hm)⟩)
    (by kernel_rfl)
end Go.Proofs.YtfjbkobkjnielaaGreatDoor
