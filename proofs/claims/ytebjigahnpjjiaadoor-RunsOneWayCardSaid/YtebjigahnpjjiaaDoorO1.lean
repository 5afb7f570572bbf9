/- For every number of pages and all rows of wants and orders, bailiwicklaw01.RunsOneWay returns true, and each argument reads behind the call as it did before; the package-level table that math/bits reads holds what the program's text lays. Condition: the table, as the card ties it. -/
import Derived.Test.YtebjigahnpjjiaaDoorCards
import Derived.Test.YtebjigahnpjjiaaDoorTie
import Derived.Test.YtebjigahnpjjiaaDoorMA
import Derived.Test.YtebjigahnpjjiaaDoorMB
import Derived.SevenTiedAt
import Derived.SizedLaws
namespace Go.Proofs.YtebjigahnpjjiaaDoor
set_option maxRecDepth 100000
open Go.ChangeShapes Go.WideShapes Go.ChangeAt Go.WideMaps Go.WideElems Go.RowKit Go.Deep

/-- The first set. -/
def firstW (pg : Int) : BitVec 64 := lowW (clampN (ari .rem .i64 (IntKind.i64.wrap pg) 65))
theorem start_t (I : In) (pg : Int) (hC : I.n1 ≤ 60 → BytesOk I.cs I.o1 I.n1) (hB : I.n2 ≤ 200 → BytesOk I.ds I.o2 I.n2) : Good EO.P okRet 2 (owC I true pg) (inM I true) := by
  refine run_vc EO_ok 1000 (ow_start_t I (uw (firstW pg)) (fun x T i => x = uw (firstW pg) ∧ T = none ∧ i = 0 ∧ I.n1 ≤ 60 ∧ I.n2 ≤ 200) (fun _ _ _ _ _ _ _ => False) (fun _ _ _ => False) (fun _ _ => False) pg) ?_ (fun _ _ h => h)
    (fun fs m hb => nxO_good hb (fun x T i h => ?_) (fun _ _ _ _ _ _ _ h => h.elim) (fun _ _ _ h => h.elim) (fun _ _ h => h.elim))
  · refine ⟨fun h => ?_, fun _ => trivial⟩
    have hn : I.n1 ≤ 60 := by
      have : ¬ ((I.n1 : Nat) : Int) > 60 := by simpa using h
      omega
    refine ⟨fun _ => trivial, fun h => ?_⟩
    have hm : I.n2 ≤ 200 := by
      have : ¬ ((I.n2 : Nat) : Int) > 200 := by simpa using h
      omega
    refine ⟨⟨rfl, rfl, rfl, hn, hm⟩, ?_⟩
    repeat' first | exact trivial | apply And.intro | exact rfl
  · obtain ⟨e1, e2, e3, hn, hm⟩ := h
    rw [e1, e2, e3]
    refine Good.head ?_
    exact (l12_t I (firstW pg) (hC hn) (by omega) (fun T X hl hS => Good.head (l3_all_t I (firstW pg) (hB hm) 2000 T X 0 (by omega) hl (by omega) (by omega) hS)) 100000).1 (firstW pg) [] 0 (by omega) (by omega) (by omega) (Split.start _) (by simp)
theorem startNil_t (I : In) (pg : Int) : Good EO4.P okRet 2 (owNil I true pg) (inN I true) := by
  refine run_vc EO4_ok 1000 (ow_nil_t I 0 (fun _ _ _ => False) (fun _ _ _ _ _ _ _ => False) (fun _ _ _ => False) (q4 (firstW pg)) pg) ?_ (fun _ _ h => h)
    (fun fs m hb => nxO_good hb (fun _ _ _ h => h.elim) (fun _ _ _ _ _ _ _ h => h.elim) (fun _ _ _ h => h.elim) (fun S k ⟨e1, e2⟩ => by rw [e1, e2]; exact last_of (firstW pg)))
  have ef : lowW (clampN (ari .rem .i64 (IntKind.i64.wrap pg) 65)) = firstW pg := rfl
  simp only [wd_uw, bne_self, ef]
  refine ⟨fun _ => trivial, fun _ => ?_⟩
  by_cases h0 : firstW pg = 0#64
  · have e : decide (firstW pg = 0#64) = true := decide_eq_true h0
    have hq : q4 (firstW pg) none 0 := ⟨by unfold rwOf; rw [if_pos h0], rfl⟩
    refine ⟨⟨trivial, trivial⟩, fun _ => ⟨⟨trivial, trivial⟩, fun _ => ⟨hq, ?_⟩, fun h => (by rw [e] at h; cases h)⟩, fun h => (by rw [e] at h; cases h)⟩
    repeat' first | exact trivial | apply And.intro | exact rfl
  · have e : decide (firstW pg = 0#64) = false := decide_eq_false h0
    have hq : q4 (firstW pg) (some ((runsN (firstW pg), runsC (firstW pg)), runsN (firstW pg), runsC (firstW pg))) 0 := ⟨by unfold rwOf; rw [if_neg h0], rfl⟩
    refine ⟨⟨trivial, trivial⟩, fun h => (by rw [e] at h; cases h), fun _ => ⟨⟨trivial, trivial⟩, fun h => (by rw [e] at h; cases h), fun _ => ⟨fun h => (by cases h), fun _ => ⟨hq, ?_⟩⟩⟩⟩
    repeat' first | exact trivial | apply And.intro | exact rfl
theorem start_f (I : In) (pg : Int) (hC : I.n1 ≤ 60 → BytesOk I.cs I.o1 I.n1) : Good EO.P okRet 2 (owC I false pg) (inM I false) := by
  refine run_vc EO_ok 1000 (ow_start_f I (uw (firstW pg)) (fun x T i => x = uw (firstW pg) ∧ T = none ∧ i = 0 ∧ I.n1 ≤ 60) (fun _ _ _ _ _ _ _ => False) (fun _ _ _ => False) (fun _ _ => False) pg) ?_ (fun _ _ h => h)
    (fun fs m hb => nxO_good hb (fun x T i h => ?_) (fun _ _ _ _ _ _ _ h => h.elim) (fun _ _ _ h => h.elim) (fun _ _ h => h.elim))
  · refine ⟨fun h => ?_, fun _ => trivial⟩
    have hn : I.n1 ≤ 60 := by
      have : ¬ ((I.n1 : Nat) : Int) > 60 := by simpa using h
      omega
    refine ⟨⟨rfl, rfl, rfl, hn⟩, ?_⟩
    repeat' first | exact trivial | apply And.intro | exact rfl
  · obtain ⟨e1, e2, e3, hn⟩ := h
    rw [e1, e2, e3]
    refine Good.head ?_
    exact (l12_f I (firstW pg) (hC hn) (by omega) (fun T X hl hS => Good.head (l3_all_f I (firstW pg) 2000 T X 0 (by omega) hl (by omega) (by omega) hS)) 100000).1 (firstW pg) [] 0 (by omega) (by omega) (by omega) (Split.start _) (by simp)
theorem startNil_f (I : In) (pg : Int) : Good EO4.P okRet 2 (owNil I false pg) (inN I false) := by
  refine run_vc EO4_ok 1000 (ow_nil_f I 0 (fun _ _ _ => False) (fun _ _ _ _ _ _ _ => False) (fun _ _ _ => False) (q4 (firstW pg)) pg) ?_ (fun _ _ h => h)
    (fun fs m hb => nxO_good hb (fun _ _ _ h => h.elim) (fun _ _ _ _ _ _ _ h => h.elim) (fun _ _ _ h => h.elim) (fun S k ⟨e1, e2⟩ => by rw [e1, e2]; exact last_of (firstW pg)))
  have ef : lowW (clampN (ari .rem .i64 (IntKind.i64.wrap pg) 65)) = firstW pg := rfl
  simp only [wd_uw, bne_self, ef]
  by_cases h0 : firstW pg = 0#64
  · have e : decide (firstW pg = 0#64) = true := decide_eq_true h0
    have hq : q4 (firstW pg) none 0 := ⟨by unfold rwOf; rw [if_pos h0], rfl⟩
    refine ⟨⟨trivial, trivial⟩, fun _ => ⟨⟨trivial, trivial⟩, fun _ => ⟨hq, ?_⟩, fun h => (by rw [e] at h; cases h)⟩, fun h => (by rw [e] at h; cases h)⟩
    repeat' first | exact trivial | apply And.intro | exact rfl
  · have e : decide (firstW pg = 0#64) = false := decide_eq_false h0
    have hq : q4 (firstW pg) (some ((runsN (firstW pg), runsC (firstW pg)), runsN (firstW pg), runsC (firstW pg))) 0 := ⟨by unfold rwOf; rw [if_neg h0], rfl⟩
    refine ⟨⟨trivial, trivial⟩, fun h => (by rw [e] at h; cases h), fun _ => ⟨⟨trivial, trivial⟩, fun h => (by rw [e] at h; cases h), fun _ => ⟨fun h => (by cases h), fun _ => ⟨hq, ?_⟩⟩⟩⟩
    repeat' first | exact trivial | apply And.intro | exact rfl
theorem body4 : Tryd.f4.body = some (Tryd.f4.body.getD .skip) := rfl
theorem cells5 : Tryd.prog.cellsOf 5 = 1 := by kernel_rfl
theorem okRet_true {R : Ren} {s : SV} {m : SMem} {v : Value} (h : okRet s m) (hv : s.ok R v) : v = .bool true := by
  unfold okRet at h
  split at h
  · exact hv
  · have hv : v = .bool _ := hv
    rw [hv]
    subst h
    rfl
  · exact h.elim
theorem wf_u8 {n : Int} (h : (Lit.int .u8 n).wf = true) : 0 ≤ n ∧ n ≤ 255 := by
  simp only [Lit.wf, Bool.and_eq_true, decide_eq_true_eq] at h
  exact h
/-- What a slice of bytes is: nil, or so many cells of a block that are bytes. -/
def BytesIn (W : World) (v : Value) : Prop :=
  v = .slice none 0 0 ∨ ∃ b off len cap cs ty fz, v = .slice (some ⟨b, off, none⟩) len cap ∧ len ≤ cap ∧ W.heap[b]? = some (.cells cs ty fz) ∧ BytesOk cs off len
theorem bytes_in {H : Type} {enc : TypeId × Value → H} {W : World} {base base' : Nat} {fuel : Nat} {v : Value} {held : Bool} {x : DataW H × List MemPlace}
    (hok : Value.okWide Tryd.prog W .any base 42 v) (h : DataW.trod enc Tryd.prog W base' (fun _ => true) held fuel 42 [v] = some x) : BytesIn W v := by
  obtain ⟨A, len, cap, rfl⟩ := okWide_slice Tryd.underlying42 hok
  rcases slice_cells Tryd.underlying42 cells5 hok h with ⟨rfl, rfl, rfl⟩ | ⟨b, off, cs, ty, fz, rfl, hl, hm, ho, hj⟩
  · exact .inl rfl
  · refine .inr ⟨b, off, len, cap, cs, ty, fz, rfl, hl, ho, fun j hlt => ?_⟩
    obtain ⟨n, y, hy⟩ := hj j hlt
    rw [Nat.mul_one] at hy
    obtain ⟨k, e1, _, w⟩ := DataW.trod_int Tryd.underlying5 hy
    have e := sub_one e1
    have e' : intAt cs (off + j) = k := by
      rw [Array.getElem?_toList] at e
      unfold intAt
      rw [e]
    exact ⟨isInt_of e, by rw [e']; exact (wf_u8 w).1, by rw [e']; exact (wf_u8 w).2⟩
theorem calls_of {W : World} {l : List SV} {args : Array Value} {m : SMem} {R : Ren} (hg : Good Tryd.prog okRet m.next [callFr 4 Tryd.f4.ntmps l (Tryd.f4.body.getD .skip)] m) (hl : All2 (SV.ok R) l args.toList) (hR : Rel W.heap.size (fun _ => False) W R m W) :
    Calls Tryd.prog 4 args W fun e w' => e = .returned (.bool true) ∧ Below W.heap.size W w' := by
  have h := answers_of_good Tryd.func4 body4 hg hl hR
  unfold Answers at h
  refine h.mono ?_
  rintro e w' ⟨v, rfl, s', m', R', hr, _, hR', hv⟩
  exact ⟨by rw [okRet_true hr hv], below_of hR'.fr⟩
theorem way_call {W : World} {v o : Value} {pg : Int} (hL : laidMetH Tryd.prog laidL W) (hv : BytesIn W v) (ho : BytesIn W o) :
    Calls Tryd.prog 4 #[.int .u8 pg, v, o] W fun e w' => e = .returned (.bool true) ∧ Below W.heap.size W w' := by
  have h0 := rel_start hL 2
  rcases hv with rfl | ⟨b, off, n, cap, cs, ty, fz, rfl, hl, hb, hcell⟩
  · rcases ho with rfl | ⟨b2, o2, n2, cap2, es, ty2, fz2, rfl, hl2, hb2, hcell2⟩
    · exact calls_of (m := ⟨2, .nil, []⟩) (startNil_f I0 pg) ⟨rfl, ⟨rfl, rfl⟩, ⟨rfl, rfl⟩, trivial⟩ h0
    · obtain ⟨h1, _⟩ := rel_add h0 (onlyRead_nil 2) (i := 1) (b := b2) (by decide) rfl hb2
      exact calls_of (startNil_t ⟨0, 0, o2, n2, #[], es, 0, ty2⟩ pg) ⟨rfl, ⟨rfl, rfl⟩, ⟨⟨b2, es.size⟩, cap2, rfl, rfl, trivial, hl2⟩, trivial⟩ h1
  · obtain ⟨h1, ho1⟩ := rel_add h0 (onlyRead_nil 2) (i := 0) (b := b) (by decide) rfl hb
    rcases ho with rfl | ⟨b2, o2, n2, cap2, es, ty2, fz2, rfl, hl2, hb2, hcell2⟩
    · exact calls_of (start_f ⟨off, n, 0, 0, cs, #[], ty, 0⟩ pg fun _ => hcell) ⟨rfl, ⟨⟨b, cs.size⟩, cap, rfl, rfl, trivial, hl⟩, ⟨rfl, rfl⟩, trivial⟩ h1
    · obtain ⟨h2, _⟩ := rel_add h1 ho1 (i := 1) (b := b2) (show 1 < 2 by decide) rfl hb2
      exact calls_of (start_t ⟨off, n, o2, n2, cs, es, ty, ty2⟩ pg (fun _ => hcell) fun _ => hcell2) ⟨rfl, ⟨⟨b, cs.size⟩, cap, rfl, rfl, trivial, hl⟩, ⟨⟨b2, es.size⟩, cap2, rfl, rfl, trivial, hl2⟩, trivial⟩ h2
theorem door_way (os : Os) (args : Array Value) : laidMetH Tryd.prog laidL ((World.doorLaid Tryd.prog 400 os).forCall (fun _ _ => 0) ⟨#[], args, []⟩).memory :=
  laidMetH_of_parts3 (fuel := 8) (laidMet_of_run' 8 (by kernel_rfl) (by kernel_rfl)) (by kernel_rfl) (by kernel_rfl)
theorem way_lifted (os : Os) (started : os.Started) (H : Type) (enc : TypeId × Value → H) :
    ReturnsInHanded {} Tryd.checked os 4 .any (fun w args => (Rows.runsOneWaySpec.pre enc Tryd.prog Tryd.f4 [] false w args ∧ laidMetH Tryd.prog laidL w) ∧ sizedMet enc Tryd.prog Tryd.f4 (OpenSpec.ofChange Rows.runsOneWaySpec) false w args)
      (Rows.runsOneWaySpec.post enc Tryd.prog Tryd.f4 false true false false) := by
  refine returnsInHanded_of_change_and (C := Tryd.checked) (X := fun w _ => laidMetH Tryd.prog laidL w) (fun _ _ _ hh h => h.of_heap hh) own started (by kernel_rfl) Tryd.func4
    (ChangeSpec.witness_shaped (enc := enc) (C := Tryd.checked) (os := os) (X := fun w _ => laidMetH Tryd.prog laidL w) false (World.doorLaid Tryd.prog 400 os) #[.int .u8 0, .slice none 0 0, .slice none 0 0] 8 rfl (World.shaped_of_RefB (by kernel_rfl) (by kernel_rfl)) (by kernel_rfl) (by kernel_rfl) (by kernel_rfl) (door_way os _)) ?_
  intro W base args ds gs before hval0 hW _ hsz0 hL _
  have hval : ∀ (j : Nat) t v, Tryd.f4.params[j]? = some t → args[j]? = some v → Value.okWide Tryd.prog W .any base t v := hval0
  have hW' := hW
  obtain ⟨p, q, hA0, hV, rfl, hfz, hnd⟩ := hW
  have hA : DataW.TrodAll enc Tryd.prog W 0 (fun _ => true) true Tryd.f4.params.toList args.toList ds p := hA0
  rw [Tryd.params4] at hA hval
  obtain ⟨v0, v1, v2, d0, d1, d2, p0, p1, p2, rfl, rfl, rfl, h0, h1, h2⟩ := trodAll_three hA
  obtain ⟨rfl, rfl⟩ := trodVars_none hV
  have h1k := h1
  have h2k := h2
  obtain ⟨pg, rfl, rfl, rfl, wt⟩ := open_int Tryd.underlying5 (hval 0 5 v0 rfl rfl) h0
  obtain ⟨fu1, hf1⟩ := h1
  obtain ⟨fu2, hf2⟩ := h2
  have k1 : BytesIn W v1 := bytes_in (hval 1 42 v1 rfl rfl) (by
    obtain ⟨A, len, cap, e⟩ := okWide_slice Tryd.underlying42 (hval 1 42 v1 rfl rfl)
    subst e
    exact hf1)
  have k2 : BytesIn W v2 := bytes_in (hval 2 42 v2 rfl rfl) (by
    obtain ⟨A, len, cap, e⟩ := okWide_slice Tryd.underlying42 (hval 2 42 v2 rfl rfl)
    subst e
    exact hf2)
  clear hA0 hval0
  simp only [List.append_nil] at hW'
  refine (way_call hL k1 k2).mono fun e' W' ⟨he, hb⟩ => ?_
  subst he
  have hlt : ∀ y ∈ [] ++ (p1 ++ p2), y.block < W.heap.size := fun y hy => by simpa using hW'.lt y (by simpa using hy)
  refine ⟨_, rfl, post_of_below (pa := [] ++ (p1 ++ p2)) (pv := []) hW' (fun _ _ _ => trodAll_mk1 (shut_bool Tryd.underlying4 _)) (fun sp hsp => ?_) (fun _ _ => rfl) (by simp) hb (ok_one (by kernel_rfl) rfl (okWide_bool_mk Tryd.underlying4 _))⟩
  refine trodAll_mk3 (shut_int Tryd.underlying5 wt) ?_ ?_
  · exact Go.WideElems.Trod_stays laidOut (by kernel_rfl) (of_decide_eq_true (by kernel_rfl)) h1k (fun y hy => hb.same (hlt y (by simp [hy]))) (fun y hy => hsp y (by simp [hy]))
  · exact Go.WideElems.Trod_stays laidOut (by kernel_rfl) (of_decide_eq_true (by kernel_rfl)) h2k (fun y hy => hb.same (hlt y (by simp [hy]))) (fun y hy => hsp y (by simp [hy]))
theorem runsOneWay_holds : Rows.RunsOneWaySaid :=
  OpenClaim.holds_of_wide 4 Tryd.f4 rfl rfl rfl rfl rfl rfl rfl ⟨rfl, rfl, rfl, rfl, rfl⟩ rfl rfl rfl rfl rfl (by kernel_rfl) Tryd.func4 (by kernel_rfl)
    (of_decide_eq_true (by kernel_rfl)) (by unfold Func.isWrapper; first | (rw [if_pos (by decide +kernel)]; kernel_rfl) | (rw [if_neg (by decide +kernel)]; exact ⟨rfl, rfl⟩))
    (fun os started H enc _ => way_lifted os started H enc)
theorem runsOneWayCard_holds : Rows.RunsOneWayCardSaid :=
  Claim7.holds_tied_plain_at .later [] [.data] true (true, "85bf43387e7a5f4bfe0ceaedf74962c75e6e35ec2d4323691b30312df22aee21") false
    runsOneWay_holds (fun _ h => by cases h) (by kernel_rfl) (fun _ h => by cases h) runsOneWay_row_tie rfl ⟨rfl, rfl⟩ (by kernel_rfl) rfl
    (fun f fn hf hfn => by
      obtain rfl : f = 4 := Option.some.inj ((show Tryd.prog.funcNamed "bailiwick/bailiwicklaw01.RunsOneWay" = some 4 by kernel_rfl).symm.trans hf) |>.symm
      obtain rfl : fn = Tryd.f4 := (Option.some.inj (Tryd.func4.symm.trans hfn)).symm
      exact ⟨by kernel_rfl, fun j t ht => by
        rw [Tryd.params4] at ht
        have hm : t ∈ [5, 42, 42] := by simpa using Array.mem_of_getElem? ht
        have hall : ([5, 42, 42].all fun u => !Tryd.prog.wantsStandIn u) = true := by kernel_rfl
        exact (show Tryd.prog.wantsStandIn t = false by simpa using List.all_eq_true.1 hall t hm)⟩)
    (by kernel_rfl)
end Go.Proofs.YtebjigahnpjjiaaDoor
