/- For every script and every string, bailiwicklaw27.JournalBegins returns true, and each argument reads behind the call as it did before. No condition. -/
import Derived.Test.YtapkbgccbmjfaaaMC
import Derived.ChangeMaps5
namespace Go.Proofs.Ytapkbgccbmjfaaa
set_option maxRecDepth 100000
open Go.ChangeShapes Go.WideShapes Go.ChangeAt Go.RowKit Go.Deep
theorem cells9 : Try.prog.cellsOf 9 = 1 := by kernel_rfl
theorem gl_nil : glTab = [] := rfl
/-- A row of strings that came in: empty, or so many cells of a block. -/
def StrIn (W : World) (v : Value) : Prop :=
  (∃ a c, v = .slice a 0 c) ∨ ∃ b off n cap cs ty fz, v = .slice (some ⟨b, off, none⟩) n cap ∧ n ≠ 0 ∧ n ≤ cap ∧ W.heap[b]? = some (.cells cs ty fz) ∧ StrI cs off n
theorem str_in {H : Type} {enc : TypeId × Value → H} {W : World} {base base' : Nat} {fuel : Nat} {v : Value} {held : Bool} {x : DataW H × List MemPlace}
    (hok : Value.okWide Try.prog W .any base 22 v) (h : DataW.trod enc Try.prog W base' (fun _ => true) held fuel 22 [v] = some x) : StrIn W v := by
  obtain ⟨A, len, cap, rfl⟩ := okWide_slice Try.underlying22 hok
  rcases slice_cells Try.underlying22 cells9 hok h with ⟨rfl, rfl, rfl⟩ | ⟨b, off, cs, ty, fz, rfl, hl, hm, ho, hj⟩
  · exact .inl ⟨_, _, rfl⟩
  · by_cases h0 : len = 0
    · subst h0; exact .inl ⟨_, _, rfl⟩
    · refine .inr ⟨b, off, len, cap, cs, ty, fz, rfl, h0, hl, ho, by unfold maxLen at hm; omega, fun i hi => ?_⟩
      obtain ⟨n, y, hy⟩ := hj i hi
      rw [Nat.mul_one] at hy
      obtain ⟨s, e, _, _⟩ := DataW.trod_string Try.underlying9 hy
      have e := sub_one e
      rw [Array.getElem?_toList] at e
      have es : strAt cs (off + i) = s := by unfold strAt; rw [e]
      unfold IsStr
      rw [es]
      exact e
/-- A script that came in. -/
theorem sc_in {H : Type} {enc : TypeId × Value → H} {W : World} {base base' : Nat} {fuel : Nat} {v : Value} {held : Bool} {x : DataW H × List MemPlace}
    (hok : Value.okWide Try.prog W .any base 24 v) (h : DataW.trod enc Try.prog W base' (fun _ => true) held fuel 24 v.cells.toList = some x) :
    ∃ P o q, v = .agg #[.int .i64 P, o, .string q] ∧ StrIn W o := by
  have hok' := hok
  simp only [Value.okWide, Try.underlying24] at hok'
  obtain ⟨cs, rfl, hsz, ts, hts, _, hcells⟩ := hok'
  have e3 : Try.prog.cellsOf 24 = 3 := by kernel_rfl
  rw [e3] at hsz
  have et : Try.prog.cellTypes Try.prog.depth 24 = some [3, 22, 9] := by kernel_rfl
  rw [et] at hts
  cases hts
  have h : DataW.trod enc Try.prog W base' (fun _ => true) held fuel 24 cs.toList = some x := h
  obtain ⟨l, rfl⟩ : ∃ l : List Value, cs = l.toArray := ⟨cs.toList, by simp⟩
  match l, hsz with
  | [c0, c1, c2], _ =>
    obtain ⟨_, k0, q0⟩ := hcells 0 c0 rfl
    obtain ⟨_, k1, q1⟩ := hcells 1 c1 rfl
    obtain ⟨_, k2, q2⟩ := hcells 2 c2 rfl
    cases k0; cases k1; cases k2
    have toV : ∀ {t : TypeId} {c : Value} {d : TypeDesc}, Try.prog.underlying t = some d → isA d = false → Cell.okWide Try.prog W .any base t c → Value.okWide Try.prog W .any base t c := by
      intro t c d hu hd hc
      unfold Value.okWide
      rw [hu]
      cases d <;> first | exact hc | cases hd
    obtain ⟨n0, rfl⟩ := okWide_int Try.underlying3 (toV Try.underlying3 rfl q0)
    obtain ⟨s2, rfl⟩ := okWide_string Try.underlying9 (toV Try.underlying9 rfl q2)
    refine ⟨n0, c1, s2, rfl, ?_⟩
    obtain ⟨ys, n, _, hx, _, hyl, hg⟩ := DataW.trod_struct Try.underlying24 h
    have hyl : ys.length = 3 := hyl
    have hy : ys[1]? = some (ys[1]'(by omega)) := List.getElem?_eq_getElem (by omega)
    have h1 := (hg 1 _ rfl).trans hy
    have e1 : Try.prog.cellsOf 22 = 1 := by kernel_rfl
    refine str_in (base' := base') (held := held) (enc := enc) (toV Try.underlying22 rfl q1) (x := ys[1]'(by omega)) (fuel := n) ?_
    rw [← h1]
    show _ = DataW.trod enc Try.prog W base' (fun _ => true) held n 22 ((List.drop 1 _).take (Try.prog.cellsOf 22))
    rw [e1]
    rfl
theorem body3 : Try.f3.body = some (Try.f3.body.getD .skip) := rfl
theorem boolR_true {R : Ren} {s : SV} {m : SMem} {v : Value} (h : boolR true s m) (hv : s.ok R v) : v = .bool true := by
  unfold boolR at h
  split at h
  · have hv : v = .bool _ := hv
    rw [hv, h]
  · exact h.elim
theorem ref_ok {R : Ren} {P : Int} {A : SF} {q : ByteArray} {u : Value} (h : A.ok R u) : (refV P (.f A) q).ok R (.agg #[.int .i64 P, u, .string q]) := ⟨_, rfl, rfl, h, ⟨rfl, rfl⟩, trivial⟩
theorem calls_of {W : World} {x y : SV} {m : SMem} {R : Ren} {v u : Value} (hg : Good Try.prog (boolR true) m.next [callFr 3 Try.f3.ntmps [x, y] (Try.f3.body.getD .skip)] m) (hx : x.ok R v) (hy : y.ok R u) (hR : Rel W.heap.size (fun _ => False) W R m W) :
    Calls Try.prog 3 #[v, u] W fun e w' => e = .returned (.bool true) ∧ Below W.heap.size W w' := by
  have hl : All2 (SV.ok R) [x, y] (#[v, u] : Array Value).toList := ⟨hx, hy, trivial⟩
  have h := answers_of_good Try.func3 body3 hg hl hR
  unfold Answers at h
  refine h.mono ?_
  rintro e w' ⟨v, rfl, s', m', R', hr, _, hR', hv⟩
  exact ⟨by rw [boolR_true hr hv], below_of hR'.fr⟩
theorem begins_call {W : World} {P : Int} {o : Value} {q b : ByteArray} (hv : StrIn W o) :
    Calls Try.prog 3 #[.agg #[.int .i64 P, o, .string q], .string b] W fun e w' => e = .returned (.bool true) ∧ Below W.heap.size W w' := by
  rcases hv with ⟨a, c, rfl⟩ | ⟨b', off, n, cap, cs, ty, fz, rfl, hn, hl, hb, hI⟩
  · exact calls_of (m := M0) (jb_good0 P q b) (ref_ok ⟨a, c, rfl⟩) ⟨rfl, rfl⟩ (rel_empty gl_nil W 0)
  · exact calls_of (m := prM true cs ty) (jb_good P off n q b cs ty hI) (ref_ok ⟨⟨b', cs.size⟩, cap, rfl, rfl, trivial, hl⟩) ⟨rfl, rfl⟩ (rel_one gl_nil hb)
theorem begins_lifted (os : Os) (started : os.Started) (H : Type) (enc : TypeId × Value → H) :
    ReturnsInHanded {} Try.checked os 3 .any (Rows.journalBeginsSpec.pre6 enc Try.prog Try.f3 Rows.journalBeginsRow.domain false) (Rows.journalBeginsSpec.post enc Try.prog Try.f3 false true false false) := by
  refine returnsInHanded_of_change (C := Try.checked) own started (by kernel_rfl) Try.func3
    (ChangeSpec.witness6 (enc := enc) (C := Try.checked) false ⟨#[], #[.agg #[.int .i64 0, .slice none 0 0, .string .empty], .string .empty], []⟩ 8 (by kernel_rfl) (by kernel_rfl) (by kernel_rfl) (by kernel_rfl)) ?_
  intro W base args ds gs before hval0 hW hcnd _
  have hval : ∀ (j : Nat) t v, Try.f3.params[j]? = some t → args[j]? = some v → Value.okWide Try.prog W .any base t v := hval0
  have hW' := hW
  obtain ⟨p, q, hA0, hV, rfl, hfz, hnd⟩ := hW
  have hA : DataW.TrodAll enc Try.prog W 0 (fun _ => true) true Try.f3.params.toList args.toList ds p := hA0
  rw [Try.params3] at hA hval
  obtain ⟨v0, v1, d0, d1, p0, p1, rfl, rfl, rfl, h0, h1⟩ := trodAll_two hA
  obtain ⟨rfl, rfl⟩ := trodVars_none hV
  have h0k := h0
  obtain ⟨s, rfl, rfl, rfl, hs⟩ := Go.ChangeMaps.open_string Try.underlying9 (hval 1 9 v1 rfl rfl) h1
  obtain ⟨fu0, hf0⟩ := h0
  obtain ⟨P, o, q, rfl, ho⟩ := sc_in (hval 0 24 v0 rfl rfl) hf0
  clear hA0 hval0
  simp only [List.append_nil] at hW'
  refine (begins_call ho).mono fun e' W' ⟨he, hb⟩ => ?_
  subst he
  have hlt : ∀ y ∈ p0, y.block < W.heap.size := fun y hy => by simpa using hW'.lt y (by simpa using hy)
  refine ⟨_, rfl, post_of_below (pa := p0) (pv := []) hW' (fun _ _ _ => trodAll_mk1 (shut_bool Try.underlying4 _)) (fun sp hsp => ?_) (fun _ _ => rfl) (by simp) hb (ok_one (by kernel_rfl) rfl (okWide_bool_mk Try.underlying4 _))⟩
  rw [show p0 = p0 ++ [] from (List.append_nil p0).symm]
  refine trodAll_mk2 ?_ (Go.ChangeMaps.shut_string Try.underlying9 hs)
  exact Go.WideElems.Trod_stays laidOut (by kernel_rfl) (of_decide_eq_true (by kernel_rfl)) h0k (fun y hy => hb.same (hlt y hy)) (fun y hy => hsp y (by simpa using hy))
theorem journalBegins_holds : Rows.JournalBeginsSaid :=
  OpenClaim.holds_of_wide 3 Try.f3 rfl rfl rfl rfl rfl rfl rfl ⟨rfl, rfl, rfl, rfl, rfl⟩ rfl rfl rfl rfl rfl (by kernel_rfl) Try.func3 (by kernel_rfl)
    (of_decide_eq_true (by kernel_rfl)) (by unfold Func.isWrapper; first | (rw [if_pos (by decide +kernel)]; kernel_rfl) | (rw [if_neg (by decide +kernel)]; exact ⟨rfl, rfl⟩))
    (fun os started H enc _ => begins_lifted os started H enc)
end Go.Proofs.Ytapkbgccbmjfaaa
