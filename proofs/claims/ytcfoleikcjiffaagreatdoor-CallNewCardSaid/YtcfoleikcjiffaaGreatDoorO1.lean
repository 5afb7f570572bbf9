/- For every number of pages, bailiwicklaw17.CallNew returns true; the package-level table that math/bits reads holds what the program's text lays. Condition: the table, as the card ties it. -/
import Derived.Test.YtcfoleikcjiffaaGreatDoorCards
import Derived.Test.YtcfoleikcjiffaaGreatDoorTie
import Derived.Test.YtcfoleikcjiffaaGreatDoorMA
import Derived.Test.YtcfoleikcjiffaaGreatDoorJ4b
import Derived.SevenTiedAt
namespace Go.Proofs.YtcfoleikcjiffaaGreatDoor
open Go.ChangeShapes Go.WideShapes Go.ChangeAt Go.WideMaps Go.WideElems Go.RowKit

theorem cbody : Tryz.f3.body = some (Tryz.f3.body.getD .skip) := rfl
theorem isT_true {R : Ren} {s : SV} {m : SMem} {v : Value} (h : isT s m) (hv : s.ok R v) : v = .bool true := by
  unfold isT at h
  split at h
  · have hv : v = .bool _ := hv
    rw [hv, h]
  · exact h.elim
theorem cn_call {W : World} (hL : laidMetH Tryz.prog laidL W) (p : Int) : Calls Tryz.prog 3 #[.int .i64 p] W fun e w' => e = .returned (.bool true) ∧ Below W.heap.size W w' := by
  have hl : All2 (SV.ok (fun _ => none)) [i64 (.o p)] (#[.int .i64 p] : Array Value).toList := ⟨rfl, trivial⟩
  have h := answers_of_good Tryz.func3 cbody (m := ⟨0, .nil, []⟩) (cn_good p) hl (rel_start hL 0)
  unfold Answers at h
  refine h.mono ?_
  rintro e w' ⟨v, rfl, s', m', R', hr, _, hR', hv⟩
  exact ⟨by rw [isT_true hr hv], below_of hR'.fr⟩
theorem mdoor (os : Os) (args : Array Value) : laidMetH Tryz.prog laidL ((World.doorLaid Tryz.prog 400 os).forCall (fun _ _ => 0) ⟨#[], args, []⟩).memory :=
  laidMetH_of_parts3 (fuel := 8) (laidMet_of_run' 8 (by kernel_rfl) (by kernel_rfl)) (by kernel_rfl) (by kernel_rfl)
set_option maxRecDepth 100000 in
theorem mlifted (os : Os) (started : os.Started) (H : Type) (enc : TypeId × Value → H) :
    ReturnsInHanded {} Tryz.checked os 3 .any (fun w args => (Rows.callNewSpec.pre enc Tryz.prog Tryz.f3 [] false w args ∧ laidMetH Tryz.prog laidL w) ∧ sizedMet enc Tryz.prog Tryz.f3 (OpenSpec.ofChange Rows.callNewSpec) false w args)
      (Rows.callNewSpec.post enc Tryz.prog Tryz.f3 false true false false) := by
  refine returnsInHanded_of_change_and (C := Tryz.checked) (X := fun w _ => laidMetH Tryz.prog laidL w) (fun _ _ _ hh h => h.of_heap hh) own started (by kernel_rfl) Tryz.func3
    (ChangeSpec.witness_shaped (enc := enc) (C := Tryz.checked) (os := os) (X := fun w _ => laidMetH Tryz.prog laidL w) false (World.doorLaid Tryz.prog 400 os) #[.int .i64 0] 8 rfl (World.shaped_of_RefB (by kernel_rfl) (by kernel_rfl)) (by kernel_rfl) (by kernel_rfl) (by kernel_rfl) (mdoor os _)) ?_
  intro W base args ds gs before hval0 hW _ _ hL _
  have hval : ∀ (j : Nat) t v, Tryz.f3.params[j]? = some t → args[j]? = some v → Value.okWide Tryz.prog W .any base t v := hval0
  have hW' := hW
  obtain ⟨p, q, hA0, hV, rfl, hfz, hnd⟩ := hW
  have hA : DataW.TrodAll enc Tryz.prog W 0 (fun _ => true) true Tryz.f3.params.toList args.toList ds p := hA0
  rw [Tryz.params3] at hA hval
  obtain ⟨v0, d0, rfl, rfl, h0⟩ := trodAll_one hA
  obtain ⟨rfl, rfl⟩ := trodVars_none hV
  obtain ⟨b, rfl, rfl, rfl, w0⟩ := open_int Tryz.underlying3 (hval 0 3 v0 rfl rfl) h0
  clear hA0 hval0
  simp only [List.append_nil] at hW'
  refine (cn_call hL b).mono fun e W' ⟨he, hb⟩ => ?_
  subst he
  exact ⟨_, rfl, post_of_below (pa := []) (pv := []) hW' (fun _ _ _ => trodAll_mk1 (shut_bool Tryz.underlying4 _)) (fun sp hsp => trodAll_mk1 (shut_int Tryz.underlying3 w0)) (fun _ _ => rfl) (by simp) hb (ok_one (by kernel_rfl) rfl (okWide_bool_mk Tryz.underlying4 _))⟩
theorem callNew_holds : Rows.CallNewSaid :=
  OpenClaim.holds_of_wide 3 Tryz.f3 rfl rfl rfl rfl rfl rfl rfl ⟨rfl, rfl, rfl, rfl, rfl⟩ rfl rfl rfl rfl rfl (by kernel_rfl) Tryz.func3 jf_all
    (of_decide_eq_true (by kernel_rfl)) (by unfold Func.isWrapper; first | (rw [if_pos (by decide +kernel)]; kernel_rfl) | (rw [if_neg (by decide +kernel)]; exact ⟨rfl, rfl⟩))
    (fun os started H enc _ => mlifted os started H enc)
theorem callNewCard_holds : Rows.CallNewCardSaid :=
  Claim7.holds_tied_plain_at .later [] [.data] true (true, "9195d8c15eae14c685408b436f82671fe5e50b23562a706f97703d9bf92de6f5") true
    callNew_holds (fun _ h => by cases h) (by kernel_rfl) (fun _ h => by cases h) callNew_row_tie rfl ⟨rfl, rfl⟩ (by kernel_rfl) rfl
    (fun f fn hf hfn => by
      obtain rfl : f = 3 := Option.some.inj ((show Tryz.prog.funcNamed "bailiwick/bailiwicklaw17.CallNew" = some 3 by kernel_rfl).symm.trans hf) |>.symm
      obtain rfl : fn = Tryz.f3 := (Option.some.inj (Tryz.func3.symm.trans hfn)).symm
      exact ⟨by kernel_rfl, fun j t ht => by
        rw [Tryz.params3] at ht
        have hm : t ∈ [3] := by simpa using Array.mem_of_getElem? ht
        have hall : ([3].all fun u => !Tryz.prog.wantsStandIn u) = true := by kernel_rfl
        exact (show Tryz.prog.wantsStandIn t = false by simpa using List.all_eq_true.1 hall t hm)⟩)
    (by kernel_rfl)
end Go.Proofs.YtcfoleikcjiffaaGreatDoor
