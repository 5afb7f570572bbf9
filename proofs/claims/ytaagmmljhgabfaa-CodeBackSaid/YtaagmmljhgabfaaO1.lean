/- For every row of instructions and every string, bailiwicklaw13.CodeBack returns true, and each argument reads behind the call as it did before. No condition. -/
import Derived.Test.YtaagmmljhgabfaaMA
import Derived.ChangeMaps5
namespace Go.Proofs.Ytaagmmljhgabfaa
set_option maxRecDepth 100000
open Go.ChangeShapes Go.WideShapes Go.ChangeAt Go.RowKit Go.Deep
theorem cells41 : Try.prog.cellsOf 41 = 5 := by kernel_rfl
theorem gl_nil : glTab = [] := rfl
theorem isInt_of {k : IntKind} {cs : Array Value} {i : Nat} {n : Int} (h : cs.toList[i]? = some (.int k n)) : IsInt k cs i ∧ intAt cs i = n := by
  rw [Array.getElem?_toList] at h
  exact ⟨(intAt_is h).2, (intAt_is h).1⟩
theorem wf_u8 {n : Int} (h : (Lit.int .u8 n).wf = true) : 0 ≤ n ∧ n ≤ 255 := by
  simp only [Lit.wf, Bool.and_eq_true, decide_eq_true_eq] at h
  exact h
theorem wf_u16 {n : Int} (h : (Lit.int .u16 n).wf = true) : 0 ≤ n ∧ n ≤ 65535 := by
  simp only [Lit.wf, Bool.and_eq_true, decide_eq_true_eq] at h
  exact h
theorem ins_of {H : Type} {enc : TypeId × Value → H} {W : World} {base : Nat} {held : Bool} {n : Nat} {cs : Array Value} {off i : Nat} {y : DataW H × List MemPlace}
    (h : DataW.trod enc Try.prog W base (fun _ => true) held n 41 ((cs.toList.drop (off + i * 5)).take 5) = some y) : InsAt cs (off + i * 5) ∧ (ins cs off i).In := by
  obtain ⟨n0, y0, h0⟩ := field_of Try.underlying41 h 0 rfl
  obtain ⟨n1, y1, h1⟩ := field_of Try.underlying41 h 1 rfl
  obtain ⟨n2, y2, h2⟩ := field_of Try.underlying41 h 2 rfl
  obtain ⟨n3, y3, h3⟩ := field_of Try.underlying41 h 3 rfl
  obtain ⟨n4, y4, h4⟩ := field_of Try.underlying41 h 4 rfl
  obtain ⟨m0, e0, _, w0⟩ := DataW.trod_int Try.underlying5 h0
  obtain ⟨m1, e1, _, w1⟩ := DataW.trod_int Try.underlying5 h1
  obtain ⟨m2, e2, _, w2⟩ := DataW.trod_int Try.underlying5 h2
  obtain ⟨m3, e3, _, w3⟩ := DataW.trod_int Try.underlying5 h3
  obtain ⟨m4, e4, _, w4⟩ := DataW.trod_int Try.underlying39 h4
  obtain ⟨a0, b0⟩ := isInt_of (sub_get (sub_one e0))
  obtain ⟨a1, b1⟩ := isInt_of (sub_get (sub_one e1))
  obtain ⟨a2, b2⟩ := isInt_of (sub_get (sub_one e2))
  obtain ⟨a3, b3⟩ := isInt_of (sub_get (sub_one e3))
  obtain ⟨a4, b4⟩ := isInt_of (sub_get (sub_one e4))
  refine ⟨⟨a0, a1, a2, a3, a4⟩, ?_⟩
  have w0 := wf_u8 w0
  have w1 := wf_u8 w1
  have w2 := wf_u8 w2
  have w3 := wf_u8 w3
  have w4 := wf_u16 w4
  rw [← b0] at w0
  rw [← b1] at w1
  rw [← b2] at w2
  rw [← b3] at w3
  rw [← b4] at w4
  exact ⟨w0, w1, w2, w3, w4⟩
/-- A row of instructions that came in: empty, or so many cells of a block. -/
def InsIn (W : World) (v : Value) : Prop :=
  (∃ a c, v = .slice a 0 c) ∨ ∃ b off n cap cs ty fz, v = .slice (some ⟨b, off, none⟩) n cap ∧ n ≠ 0 ∧ n ≤ cap ∧ W.heap[b]? = some (.cells cs ty fz) ∧ (n ≤ 200 → InsOk cs off n)
theorem ins_in {H : Type} {enc : TypeId × Value → H} {W : World} {base base' : Nat} {fuel : Nat} {v : Value} {held : Bool} {x : DataW H × List MemPlace}
    (hok : Value.okWide Try.prog W .any base 22 v) (h : DataW.trod enc Try.prog W base' (fun _ => true) held fuel 22 [v] = some x) : InsIn W v := by
  obtain ⟨A, len, cap, rfl⟩ := okWide_slice Try.underlying22 hok
  rcases slice_cells Try.underlying22 cells41 hok h with ⟨rfl, rfl, rfl⟩ | ⟨b, off, cs, ty, fz, rfl, hl, _, ho, hj⟩
  · exact .inl ⟨_, _, rfl⟩
  · by_cases h0 : len = 0
    · subst h0; exact .inl ⟨_, _, rfl⟩
    · refine .inr ⟨b, off, len, cap, cs, ty, fz, rfl, h0, hl, ho, fun hn => ⟨by omega, fun i hi => ?_⟩⟩
      obtain ⟨n, y, hy⟩ := hj i hi
      exact ins_of hy
theorem body4 : Try.f4.body = some (Try.f4.body.getD .skip) := rfl
theorem boolR_true {R : Ren} {s : SV} {m : SMem} {v : Value} (h : boolR true s m) (hv : s.ok R v) : v = .bool true := by
  unfold boolR at h
  split at h
  · have hv : v = .bool _ := hv
    rw [hv, h]
  · exact h.elim
theorem calls_of {W : World} {x y : SV} {m : SMem} {R : Ren} {v u : Value} (hm : m.next = 1) (hg : Good Try.prog (boolR true) 1 (backC x y) m) (hx : x.ok R v) (hy : y.ok R u) (hR : Rel W.heap.size (fun _ => False) W R m W) :
    Calls Try.prog 4 #[v, u] W fun e w' => e = .returned (.bool true) ∧ Below W.heap.size W w' := by
  have hl : All2 (SV.ok R) [x, y] (#[v, u] : Array Value).toList := ⟨hx, hy, trivial⟩
  have hg : Good Try.prog (boolR true) m.next (backC x y) m := by rw [hm]; exact hg
  have h := answers_of_good Try.func4 body4 hg hl hR
  unfold Answers at h
  refine h.mono ?_
  rintro e w' ⟨v, rfl, s', m', R', hr, _, hR', hv⟩
  exact ⟨by rw [boolR_true hr hv], below_of hR'.fr⟩
theorem s1_good : Good Try.prog (boolR true) 1 (backC e0V litE) M1 :=
  (good_true EL_ok s1_true).mono fun s m h => by rw [h]; rfl
theorem s3_any (off n : Nat) (cs : Array Value) (ty : TypeId) (hn : n ≠ 0) (hI : n ≤ 200 → InsOk cs off n) : Good Try.prog (boolR true) 1 (backC (prS off n) litE) (prM true cs ty) := by
  by_cases h : n ≤ 200
  · exact s3_good off n cs ty (hI h) hn
  · refine run_vc (Eh_ok true false) 1000 (bk_s3 off n cs ty .empty true (fun _ => False) (fun _ _ _ _ _ => False)) ?_ (fun _ _ h => h) (fun fs m hb => nB_good (fun i h => h.elim) (fun _ _ _ _ _ h => h.elim) hb)
    refine ⟨fun h1 => ?_, fun _ => rfl⟩
    simp at h1; omega
theorem s4_any (off n : Nat) (cs : Array Value) (ty : TypeId) (b : ByteArray) (hb0 : b.size ≠ 0) (hn : n ≠ 0) (hI : n ≤ 200 → InsOk cs off n) : Good Try.prog (boolR true) 1 (backC (prS off n) (strV b)) (prM true cs ty) := by
  by_cases h : n ≤ 200
  · exact s4_good off n cs ty b (hI h) hn hb0
  · refine run_vc (Eh_ok true true) 1000 (bk_s4 off n cs ty b true (fun _ => False) (fun _ _ _ _ _ => False)) ?_ (fun _ _ h => h) (fun fs m hb => nB_good (fun i h => h.elim) (fun _ _ _ _ _ h => h.elim) hb)
    refine ⟨fun h1 => ?_, fun _ => rfl⟩
    simp at h1; omega
theorem empty_of {b : ByteArray} (h : b.size = 0) : b = ⟨⟨[]⟩⟩ := by
  apply ByteArray.ext
  exact Array.eq_empty_of_size_eq_zero h
theorem back_call {W : World} {v : Value} {b : ByteArray} (hv : InsIn W v) :
    Calls Try.prog 4 #[v, .string b] W fun e w' => e = .returned (.bool true) ∧ Below W.heap.size W w' := by
  by_cases h0 : b.size = 0
  · have e := empty_of h0
    subst e
    rcases hv with ⟨a, c, rfl⟩ | ⟨b, off, n, cap, cs, ty, fz, rfl, hn, hl, hb, hI⟩
    · exact calls_of rfl s1_good ⟨a, c, rfl⟩ ⟨rfl, rfl⟩ (rel_empty gl_nil W 1)
    · exact calls_of rfl (s3_any off n cs ty hn hI) ⟨⟨b, cs.size⟩, cap, rfl, rfl, trivial, hl⟩ ⟨rfl, rfl⟩ (rel_one gl_nil hb)
  · rcases hv with ⟨a, c, rfl⟩ | ⟨b', off, n, cap, cs, ty, fz, rfl, hn, hl, hb, hI⟩
    · exact calls_of rfl (s2_good h0) ⟨a, c, rfl⟩ ⟨rfl, rfl⟩ (rel_empty gl_nil W 1)
    · exact calls_of rfl (s4_any off n cs ty b h0 hn hI) ⟨⟨b', cs.size⟩, cap, rfl, rfl, trivial, hl⟩ ⟨rfl, rfl⟩ (rel_one gl_nil hb)
theorem back_lifted (os : Os) (started : os.Started) (H : Type) (enc : TypeId × Value → H) :
    ReturnsInHanded {} Try.checked os 4 .any (Rows.codeBackSpec.pre6 enc Try.prog Try.f4 Rows.codeBackRow.domain false) (Rows.codeBackSpec.post enc Try.prog Try.f4 false true false false) := by
  refine returnsInHanded_of_change (C := Try.checked) own started (by kernel_rfl) Try.func4
    (ChangeSpec.witness6 (enc := enc) (C := Try.checked) false ⟨#[], #[.slice none 0 0, .string .empty], []⟩ 8 (by kernel_rfl) (by kernel_rfl) (by kernel_rfl) (by kernel_rfl)) ?_
  intro W base args ds gs before hval0 hW hcnd _
  have hval : ∀ (j : Nat) t v, Try.f4.params[j]? = some t → args[j]? = some v → Value.okWide Try.prog W .any base t v := hval0
  have hW' := hW
  obtain ⟨p, q, hA0, hV, rfl, hfz, hnd⟩ := hW
  have hA : DataW.TrodAll enc Try.prog W 0 (fun _ => true) true Try.f4.params.toList args.toList ds p := hA0
  rw [Try.params4] at hA hval
  obtain ⟨v0, v1, d0, d1, p0, p1, rfl, rfl, rfl, h0, h1⟩ := trodAll_two hA
  obtain ⟨rfl, rfl⟩ := trodVars_none hV
  have h0k := h0
  obtain ⟨s, rfl, rfl, rfl, hs⟩ := Go.ChangeMaps.open_string Try.underlying9 (hval 1 9 v1 rfl rfl) h1
  obtain ⟨fu0, hf0⟩ := h0
  have k0 : InsIn W v0 := ins_in (hval 0 22 v0 rfl rfl) (by
    obtain ⟨A, len, cap, e⟩ := okWide_slice Try.underlying22 (hval 0 22 v0 rfl rfl)
    subst e
    exact hf0)
  clear hA0 hval0
  simp only [List.append_nil] at hW'
  refine (back_call k0).mono fun e' W' ⟨he, hb⟩ => ?_
  subst he
  have hlt : ∀ y ∈ p0, y.block < W.heap.size := fun y hy => by simpa using hW'.lt y (by simpa using hy)
  refine ⟨_, rfl, post_of_below (pa := p0) (pv := []) hW' (fun _ _ _ => trodAll_mk1 (shut_bool Try.underlying4 _)) (fun sp hsp => ?_) (fun _ _ => rfl) (by simp) hb (ok_one (by kernel_rfl) rfl (okWide_bool_mk Try.underlying4 _))⟩
  rw [show p0 = p0 ++ [] from (List.append_nil p0).symm]
  refine trodAll_mk2 ?_ (Go.ChangeMaps.shut_string Try.underlying9 hs)
  exact Go.WideElems.Trod_stays laidOut (by kernel_rfl) (of_decide_eq_true (by kernel_rfl)) h0k (fun y hy => hb.same (hlt y hy)) (fun y hy => hsp y (by simpa using hy))
theorem codeBack_holds : Rows.CodeBackSaid :=
  OpenClaim.holds_of_wide 4 Try.f4 rfl rfl rfl rfl rfl rfl rfl ⟨rfl, rfl, rfl, rfl, rfl⟩ rfl rfl rfl rfl rfl (by kernel_rfl) Try.func4 (by kernel_rfl)
    (of_decide_eq_true (by kernel_rfl)) (by unfold Func.isWrapper; first | (rw [if_pos (by decide +kernel)]; kernel_rfl) | (rw [if_neg (by decide +kernel)]; exact ⟨rfl, rfl⟩))
    (fun os started H enc _ => back_lifted os started H enc)
end Go.Proofs.Ytaagmmljhgabfaa
