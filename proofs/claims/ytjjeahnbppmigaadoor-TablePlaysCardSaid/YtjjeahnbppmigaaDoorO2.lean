/- For every list of generations, every list of acts and every handle, bailiwicklaw05.TablePlays returns true, and the arguments read behind the call as they did before; the package-level table that math/bits reads holds what the program's text lays. Condition: the table, as the card ties it. -/
import Derived.Test.YtjjeahnbppmigaaDoorCards
import Derived.Test.YtjjeahnbppmigaaDoorTie
import Derived.Test.YtjjeahnbppmigaaDoorMA
import Derived.Test.YtjjeahnbppmigaaDoorMD
import Derived.SevenTiedAt
import Derived.SizedLaws
set_option linter.unusedVariables false
set_option linter.unusedSimpArgs false
namespace Go.Proofs.YtjjeahnbppmigaaDoor
set_option maxRecDepth 100000
open Go.ChangeShapes Go.WideShapes Go.ChangeAt Go.WideMaps Go.WideElems Go.RowKit Go.Deep

theorem body3 : Tryd.f3.body = some (Tryd.f3.body.getD .skip) := rfl
theorem cells24 : Tryd.prog.cellsOf 24 = 1 := by kernel_rfl
theorem cells59 : Tryd.prog.cellsOf 59 = 15 := by kernel_rfl
theorem isB_true {R : Ren} {s : SV} {m : SMem} {v : Value} (h : isB true s m) (hv : s.ok R v) : v = .bool true := by
  unfold isB at h
  split at h
  · have hv : v = .bool _ := hv
    rw [hv, h]
  · exact h.elim
theorem wf_u8 {n : Int} (h : (Lit.int .u8 n).wf = true) : 0 ≤ n ∧ n ≤ 255 := by
  simp only [Lit.wf, Bool.and_eq_true, decide_eq_true_eq] at h
  exact h
theorem isInt_at {k : IntKind} {cs : Array Value} {i : Nat} {n : Int} (h : cs.toList[i]? = some (.int k n)) : IsInt k cs i ∧ intAt cs i = n := by
  rw [Array.getElem?_toList] at h
  exact ⟨isI_of h, intAt_of h⟩
theorem wf_u32 {n : Int} (h : (Lit.int .u32 n).wf = true) : inH n := by
  simp only [Lit.wf, Bool.and_eq_true, decide_eq_true_eq] at h
  unfold inH
  have h1 : 0 ≤ n := h.1
  have h2 : n ≤ 4294967295 := h.2
  omega
/-- A cell that is read tells where it lies. -/
theorem cell_at {W : World} {a : Addr} {v : Value} (h : W.cell? a = some v) : a.spot = none ∧ ∃ arr ty fz, W.heap[a.block]? = some (.cells arr ty fz) ∧ arr[a.off]? = some v := by
  unfold World.cell? at h
  split at h
  · rename_i c e1 e2 hb
    split at h
    · cases h
    · rename_i hs
      exact ⟨by simpa using hs, c, _, _, hb, h⟩
  · cases h
/-- A row of pairs of numbers, as it came in. -/
theorem runs_of {H : Type} {enc : TypeId × Value → H} {W : World} {base : Nat} {held : Bool} {n : Nat} {l : List Value} {y : DataW H × List MemPlace} (h : DataW.trod enc Tryd.prog W base (fun _ => true) held n 47 l = some y) :
    ∃ v, l = [v] ∧ v.oneCell' = true ∧ IsSl v ∧ (nV v ≤ 80 → @SlX (GhW W) v) := by
  rcases open_slice Tryd.underlying47 h with ⟨rfl, _⟩ | ⟨a, len, cap, m, n', D, Pl, rfl, _, hl, hmx, hm, _, hi⟩
  · exact ⟨_, rfl, rfl, ⟨_, _, _, rfl⟩, fun _ => .inl ⟨_, _, rfl⟩⟩
  · refine ⟨_, rfl, rfl, ⟨_, _, _, rfl⟩, fun h80 => ?_⟩
    have hm : m = cap := by simpa using hm
    by_cases h0 : len = 0
    · subst h0
      exact .inl ⟨_, _, rfl⟩
    · have h80 : len ≤ 80 := h80
      have c109 : Tryd.prog.cellsOf 109 = 2 := by kernel_rfl
      have c3 : Tryd.prog.cellsOf 3 = 1 := by kernel_rfl
      rw [c109] at hi
      have at0 : ∃ v, W.cell? a = some v := by
        obtain ⟨cs', hc, ht⟩ := hi 0 (by omega)
        obtain ⟨_, hcl, hat⟩ := World.cells?_some hc
        have := hat 0 (by decide)
        have e : (a.add (0 * 2)).add 0 = a := rfl
        rw [e, List.getElem?_eq_getElem (by omega)] at this
        exact ⟨_, this⟩
      obtain ⟨v0, hv0⟩ := at0
      obtain ⟨hs, arr, ty, fz, hb, _⟩ := cell_at hv0
      obtain ⟨b, off, spot⟩ := a
      have hs : spot = none := hs
      subst hs
      have hb : W.heap[b]? = some (.cells arr ty fz) := hb
      have each : ∀ i, i < len → ∀ j, j < 2 → ∃ k, arr[off + i * 2 + j]? = some (.int .i64 k) := by
        intro i hlt j hj
        obtain ⟨cs', hc, ht⟩ := hi i (by omega)
        obtain ⟨_, hcl, hat⟩ := World.cells?_some hc
        obtain ⟨xs, m', _, _, _, hxl, hel⟩ := DataW.trod_array Tryd.underlying109 ht
        have h1 := hel j hj
        rw [c3, Nat.mul_one, List.getElem?_eq_getElem (by omega)] at h1
        obtain ⟨k, e1, _, _⟩ := DataW.trod_int Tryd.underlying3 h1
        have e2 := hat j hj
        rw [add_none, add_none, sub_one e1] at e2
        obtain ⟨_, arr', ty', fz', hb', h3⟩ := cell_at e2
        have hb' : W.heap[b]? = some (.cells arr' ty' fz') := hb'
        rw [hb] at hb'
        cases hb'
        exact ⟨k, h3⟩
      refine .inr ⟨_, .inr ⟨b, off, len, cap, arr.toList, rfl, .inr ⟨arr, ty, fz, hb, rfl⟩, ⟨?_, h80, fun i hlt => ?_, fun i hlt => ?_⟩, by omega, hl, rfl⟩⟩
      · obtain ⟨k, hk⟩ := each (len - 1) (by omega) 1 (by decide)
        have := (Array.getElem?_eq_some_iff.1 hk).1
        simp only [List.size_toArray, Array.length_toList]
        omega
      · obtain ⟨k, hk⟩ := each i hlt 0 (by decide)
        have hk : arr.toList.toArray[off + i * 2]? = some (.int .i64 k) := hk
        exact isI_of hk
      · obtain ⟨k, hk⟩ := each i hlt 1 (by decide)
        have hk : arr.toList.toArray[off + i * 2 + 1]? = some (.int .i64 k) := hk
        exact isI_of hk
theorem sub_sub {l : List Value} {a b c : Nat} {v : Value} (h : ((l.drop a).take b)[c]? = some v) : l[a + c]? = some v := sub_get h
theorem act_of {H : Type} {enc : TypeId × Value → H} {W : World} {base : Nat} {held : Bool} {n : Nat} {cs : Array Value} {p : Nat} {y : DataW H × List MemPlace}
    (h : DataW.trod enc Tryd.prog W base (fun _ => true) held n 59 ((cs.toList.drop p).take 15) = some y) : @AcAt (GhW W) cs p := by
  obtain ⟨n0, y0, h0⟩ := field_of Tryd.underlying59 h 0 rfl
  obtain ⟨n1, y1, h1⟩ := field_of Tryd.underlying59 h 1 rfl
  obtain ⟨n2, y2, h2⟩ := field_of Tryd.underlying59 h 2 rfl
  obtain ⟨n3, y3, h3⟩ := field_of Tryd.underlying59 h 3 rfl
  obtain ⟨u0, z0, r0⟩ := field_of Tryd.underlying52 h3 0 rfl
  obtain ⟨u1, z1, r1⟩ := field_of Tryd.underlying52 h3 1 rfl
  obtain ⟨u2, z2, r2⟩ := field_of Tryd.underlying52 h3 2 rfl
  obtain ⟨u3, z3, r3⟩ := field_of Tryd.underlying52 h3 3 rfl
  obtain ⟨w0, x0, s0⟩ := field_of Tryd.underlying49 r2 0 rfl
  obtain ⟨w1, x1, s1⟩ := field_of Tryd.underlying49 r2 1 rfl
  obtain ⟨_, e0, _, wf0⟩ := DataW.trod_int Tryd.underlying5 h0
  obtain ⟨_, e1, _, wf1⟩ := DataW.trod_int Tryd.underlying24 h1
  obtain ⟨_, e2, _, wf2⟩ := DataW.trod_int Tryd.underlying24 h2
  obtain ⟨_, f0, _, _⟩ := DataW.trod_int Tryd.underlying3 r0
  obtain ⟨_, f1, _, _⟩ := DataW.trod_int Tryd.underlying3 r1
  obtain ⟨_, g1, _, _⟩ := DataW.trod_int Tryd.underlying3 s1
  obtain ⟨v, g0, v1, v2, v3⟩ := runs_of s0
  obtain ⟨xs, m', _, _, _, hxl, hel⟩ := DataW.trod_array Tryd.underlying50 r3
  obtain ⟨a0, _⟩ := isInt_at (sub_get (sub_one e0))
  obtain ⟨a1, b1⟩ := isInt_at (sub_get (sub_one e1))
  obtain ⟨a2, b2⟩ := isInt_at (sub_get (sub_one e2))
  have a3 := isInt_of (sub_get (sub_get (sub_one f0)))
  have a4 := isInt_of (sub_get (sub_get (sub_one f1)))
  have a5 : cs.toList[p + (3 + (2 + 0))]? = some v := sub_get (sub_get (sub_get (sub_one g0)))
  have a6 := isInt_of (sub_get (sub_get (sub_get (sub_one g1))))
  rw [Array.getElem?_toList] at a5
  have a5 : cs[p + 5]? = some v := a5
  have ev : valAt cs (p + 5) = v := by unfold valAt; rw [a5]; rfl
  have wf1 := wf_u32 wf1
  have wf2 := wf_u32 wf2
  rw [← b1] at wf1
  rw [← b2] at wf2
  have c3 : Tryd.prog.cellsOf 3 = 1 := by kernel_rfl
  refine @AcAt.mk (GhW W) cs p a0 a1 a2 a3 a4 ⟨v, a5, v1⟩ (by rw [ev]; exact v2) (by rw [ev]; exact v3) a6 (fun k hk => ?_) wf1 wf2
  have q1 := hel k hk
  rw [c3, Nat.mul_one, List.getElem?_eq_getElem (by omega)] at q1
  obtain ⟨j, q2, _, _⟩ := DataW.trod_int Tryd.underlying3 q1
  have q3 : cs.toList[p + (3 + (4 + k))]? = some (.int .i64 j) := sub_get (sub_get (sub_get (sub_one q2)))
  rw [show p + (3 + (4 + k)) = p + 7 + k by omega] at q3
  exact isInt_of q3
/-- What a list of acts is: nil, or so many acts of a block. -/
def ActsIn (W : World) (v : Value) : Prop :=
  (∃ a c, v = .slice a 0 c) ∨ ∃ b off len cap cs ty fz, v = .slice (some ⟨b, off, none⟩) len cap ∧ len ≤ cap ∧ W.heap[b]? = some (.cells cs ty fz) ∧ @AcOk (GhW W) cs off len
theorem acts_in {H : Type} {enc : TypeId × Value → H} {W : World} {base base' : Nat} {fuel : Nat} {v : Value} {held : Bool} {x : DataW H × List MemPlace}
    (hok : Value.okWide Tryd.prog W .any base 23 v) (h : DataW.trod enc Tryd.prog W base' (fun _ => true) held fuel 23 [v] = some x) : ActsIn W v := by
  obtain ⟨A, len, cap, rfl⟩ := okWide_slice Tryd.underlying23 hok
  rcases slice_cells Tryd.underlying23 cells59 hok h with ⟨rfl, rfl, rfl⟩ | ⟨b, off, cs, ty, fz, rfl, hl, hm, ho, hj⟩
  · exact .inl ⟨_, _, rfl⟩
  · by_cases h0 : len = 0
    · subst h0
      exact .inl ⟨_, _, rfl⟩
    · have at' : ∀ j, j < len → @AcAt (GhW W) cs (off + j * 15) := fun j hlt => by
        obtain ⟨n, y, hy⟩ := hj j hlt
        exact act_of hy
      refine .inr ⟨b, off, len, cap, cs, ty, fz, rfl, hl, ho, @AcOk.mk (GhW W) cs off len ?_ at'⟩
      have hc := @AcAt.c (GhW W) _ _ (at' (len - 1) (by omega)) 7 (by decide)
      unfold IsInt at hc
      have := (Array.getElem?_eq_some_iff.1 hc).1
      omega
/-- What a list of generations is: none, or so many of a block. -/
def GensIn (W : World) (v : Value) : Prop :=
  (∃ a c, v = .slice a 0 c) ∨ ∃ b off len cap cs ty fz, v = .slice (some ⟨b, off, none⟩) len cap ∧ len ≤ cap ∧ W.heap[b]? = some (.cells cs ty fz) ∧ GnIn cs off len
theorem gens_in {H : Type} {enc : TypeId × Value → H} {W : World} {base base' : Nat} {fuel : Nat} {v : Value} {held : Bool} {x : DataW H × List MemPlace}
    (hok : Value.okWide Tryd.prog W .any base 22 v) (h : DataW.trod enc Tryd.prog W base' (fun _ => true) held fuel 22 [v] = some x) : GensIn W v := by
  obtain ⟨A, len, cap, rfl⟩ := okWide_slice Tryd.underlying22 hok
  rcases slice_cells Tryd.underlying22 cells24 hok h with ⟨rfl, rfl, rfl⟩ | ⟨b, off, cs, ty, fz, rfl, hl, hm, ho, hj⟩
  · exact .inl ⟨_, _, rfl⟩
  · refine .inr ⟨b, off, len, cap, cs, ty, fz, rfl, hl, ho, fun j hlt => ?_⟩
    obtain ⟨n, y, hy⟩ := hj j hlt
    obtain ⟨_, e, _, wf⟩ := DataW.trod_int Tryd.underlying24 hy
    rw [Nat.mul_one] at e
    obtain ⟨a, b⟩ := isInt_at (sub_one e)
    have wf := wf_u32 wf
    rw [← b] at wf
    exact ⟨a, wf⟩
theorem calls_of {W : World} {l : List SV} {args : Array Value} {m : SMem} {R : Ren} (hg : @Good (GhW W) Tryd.prog (isB true) m.next [callFr 3 Tryd.f3.ntmps l (Tryd.f3.body.getD .skip)] m) (hl : All2 (SV.ok R) l args.toList) (hR : @Rel (GhW W) W.heap.size (fun _ => False) W R m W) :
    Calls Tryd.prog 3 args W fun e w' => e = .returned (.bool true) ∧ Below W.heap.size W w' := by
  letI : Gh := GhW W
  have h := answers_of_good Tryd.func3 body3 hg hl hR
  unfold Answers at h
  refine h.mono ?_
  rintro e w' ⟨v, rfl, s', m', R', hr, _, hR', hv⟩
  exact ⟨by rw [isB_true hr hv], below_of hR'.fr⟩
theorem play_call {W : World} {v0 v1 : Value} {ask : Int} (hL : laidMetH Tryd.prog laidL W) (hg : GensIn W v0) (hv : ActsIn W v1) (ha : inH ask) :
    Calls Tryd.prog 3 #[v0, v1, .int .u32 ask] W fun e w' => e = .returned (.bool true) ∧ Below W.heap.size W w' := by
  letI : Gh := GhW W
  rcases hv with ⟨a, c, rfl⟩ | ⟨b, off, n, cap, cs, ty, fz, rfl, hl, hb, hcell⟩
  · rcases hg with ⟨a', c', rfl⟩ | ⟨b', off', n', cap', cs', ty', fz', rfl, hl', hb', hcell'⟩
    · exact calls_of (m := e0M) (plays_none (GhW W) ha) ⟨⟨_, _, rfl⟩, ⟨_, _, rfl⟩, rfl, trivial⟩ (rel_start hL 0)
    · obtain ⟨h1, _⟩ := rel_add (rel_start hL 1) (onlyRead_nil 1) (i := 0) (b := b') (by decide) rfl hb'
      exact calls_of (m := rM cs' ty') (plays_gens (go := off') (gn := n') (tg := ty') (GhW W) hcell' ha) ⟨⟨⟨b', cs'.size⟩, cap', rfl, rfl, trivial, hl'⟩, ⟨_, _, rfl⟩, rfl, trivial⟩ h1
  · obtain ⟨h1, r1⟩ := rel_add (rel_start hL 2) (onlyRead_nil 2) (i := 0) (b := b) (by decide) rfl hb
    rcases hg with ⟨a', c', rfl⟩ | ⟨b', off', n', cap', cs', ty', fz', rfl, hl', hb', hcell'⟩
    · exact calls_of (m := mkM 2 [(0, ⟨.raw cs, ty, false⟩)]) (plays_acts (off := off) (num := n) (ty := ty) (GhW W) hcell ha) ⟨⟨_, _, rfl⟩, ⟨⟨b, cs.size⟩, cap, rfl, rfl, trivial, hl⟩, rfl, trivial⟩ h1
    · obtain ⟨h2, _⟩ := rel_add h1 r1 (i := 1) (b := b') (show 1 < 2 by decide) rfl hb'
      exact calls_of (m := mkM 2 [(0, ⟨.raw cs, ty, false⟩), (1, ⟨.raw cs', ty', false⟩)]) (plays_both (off := off) (num := n) (ty := ty) (go := off') (gn := n') (tg := ty') (GhW W) hcell hcell' ha) ⟨⟨⟨b', cs'.size⟩, cap', rfl, rfl, trivial, hl'⟩, ⟨⟨b, cs.size⟩, cap, rfl, rfl, trivial, hl⟩, rfl, trivial⟩ h2
theorem door_play (os : Os) (args : Array Value) : laidMetH Tryd.prog laidL ((World.doorLaid Tryd.prog 400 os).forCall (fun _ _ => 0) ⟨#[], args, []⟩).memory :=
  laidMetH_of_parts3 (fuel := 8) (laidMet_of_run' 8 (by kernel_rfl) (by kernel_rfl)) (by kernel_rfl) (by kernel_rfl)
theorem play_lifted (os : Os) (started : os.Started) (H : Type) (enc : TypeId × Value → H) :
    ReturnsInHanded {} Tryd.checked os 3 .any (fun w args => (Rows.tablePlaysSpec.pre enc Tryd.prog Tryd.f3 [] false w args ∧ laidMetH Tryd.prog laidL w) ∧ sizedMet enc Tryd.prog Tryd.f3 (OpenSpec.ofChange Rows.tablePlaysSpec) false w args)
      (Rows.tablePlaysSpec.post enc Tryd.prog Tryd.f3 false true false false) := by
  refine returnsInHanded_of_change_and (C := Tryd.checked) (X := fun w _ => laidMetH Tryd.prog laidL w) (fun _ _ _ hh h => h.of_heap hh) own started (by kernel_rfl) Tryd.func3
    (ChangeSpec.witness_shaped (enc := enc) (C := Tryd.checked) (os := os) (X := fun w _ => laidMetH Tryd.prog laidL w) false (World.doorLaid Tryd.prog 400 os) #[.slice none 0 0, .slice none 0 0, .int .u32 0] 8 rfl (World.shaped_of_RefB (by kernel_rfl) (by kernel_rfl)) (by kernel_rfl) (by kernel_rfl) (by kernel_rfl) (door_play os _)) ?_
  intro W base args ds gs before hval0 hW _ hsz0 hL _
  have hval : ∀ (j : Nat) t v, Tryd.f3.params[j]? = some t → args[j]? = some v → Value.okWide Tryd.prog W .any base t v := hval0
  have hW' := hW
  obtain ⟨p, q, hA0, hV, rfl, hfz, hnd⟩ := hW
  have hA : DataW.TrodAll enc Tryd.prog W 0 (fun _ => true) true Tryd.f3.params.toList args.toList ds p := hA0
  rw [Tryd.params3] at hA hval
  obtain ⟨v0, v1, v2, d0, d1, d2, p0, p1, p2, rfl, rfl, rfl, h0, h1, h2⟩ := trodAll_three hA
  obtain ⟨rfl, rfl⟩ := trodVars_none hV
  have h0k := h0
  have h1k := h1
  obtain ⟨x2, rfl, rfl, rfl, w2⟩ := open_int Tryd.underlying24 (hval 2 24 v2 rfl rfl) h2
  obtain ⟨fu0, hf0⟩ := h0
  obtain ⟨fu1, hf1⟩ := h1
  have k0 : GensIn W v0 := gens_in (hval 0 22 v0 rfl rfl) (by
    obtain ⟨A, len, cap, e⟩ := okWide_slice Tryd.underlying22 (hval 0 22 v0 rfl rfl)
    subst e
    exact hf0)
  have k1 : ActsIn W v1 := acts_in (hval 1 23 v1 rfl rfl) (by
    obtain ⟨A, len, cap, e⟩ := okWide_slice Tryd.underlying23 (hval 1 23 v1 rfl rfl)
    subst e
    exact hf1)
  clear hA0 hval0
  simp only [List.append_nil] at hW'
  refine (play_call hL k0 k1 (wf_u32 w2)).mono fun e' W' ⟨he, hb⟩ => ?_
  subst he
  have hlt : ∀ y ∈ p0 ++ p1, y.block < W.heap.size := fun y hy => by simpa using hW'.lt y (by simpa using hy)
  refine ⟨_, rfl, post_of_below (pa := p0 ++ (p1 ++ [])) (pv := []) hW' (fun _ _ _ => trodAll_mk1 (shut_bool Tryd.underlying4 _)) (fun sp hsp => ?_) (fun _ _ => rfl) (by simp) hb (ok_one (by kernel_rfl) rfl (okWide_bool_mk Tryd.underlying4 _))⟩
  refine trodAll_mk3 ?_ ?_ (shut_int Tryd.underlying24 w2)
  · exact Go.WideElems.Trod_stays laidOut (by kernel_rfl) (of_decide_eq_true (by kernel_rfl)) h0k (fun y hy => hb.same (hlt y (by simp [hy]))) (fun y hy => hsp y (by simp [hy]))
  · exact Go.WideElems.Trod_stays laidOut (by kernel_rfl) (of_decide_eq_true (by kernel_rfl)) h1k (fun y hy => hb.same (hlt y (by simp [hy]))) (fun y hy => hsp y (by simp [hy]))
theorem tablePlays_holds : Rows.TablePlaysSaid :=
  OpenClaim.holds_of_wide 3 Tryd.f3 rfl rfl rfl rfl rfl rfl rfl ⟨rfl, rfl, rfl, rfl, rfl⟩ rfl rfl rfl rfl rfl (by kernel_rfl) Tryd.func3 (by kernel_rfl)
    (of_decide_eq_true (by kernel_rfl)) (by unfold Func.isWrapper; first | (rw [if_pos (by decide +kernel)]; kernel_rfl) | (rw [if_neg (by decide +kernel)]; exact ⟨rfl, rfl⟩))
    (fun os started H enc _ => play_lifted os started H enc)
theorem tablePlaysCard_holds : Rows.TablePlaysCardSaid :=
  Claim7.holds_tied_plain_at .later [] [.data] true (true, "eb28e0506a50acee32716700cbc6666d52afda10c87d48d38b7e9cd08e3e1c20") false
    tablePlays_holds (fun _ h => by cases h) (by kernel_rfl) (fun _ h => by cases h) tablePlays_row_tie rfl ⟨rfl, rfl⟩ (by kernel_rfl) rfl
    (fun f fn hf hfn => by
      obtain rfl : f = 3 := Option.some.inj ((show Tryd.prog.funcNamed "bailiwick/bailiwicklaw05.TablePlays" = some 3 by kernel_rfl).symm.trans hf) |>.symm
      obtain rfl : fn = Tryd.f3 := (Option.some.inj (Tryd.func3.symm.trans hfn)).symm
      exact ⟨by kernel_rfl, fun j t ht => by
        rw [Tryd.params3] at ht
        have hm : t ∈ [22, 23, 24] := by simpa using Array.mem_of_getElem? ht
        have hall : ([22, 23, 24].all fun u => !Tryd.prog.wantsStandIn u) = true := by kernel_rfl
        exact (show Tryd.prog.wantsStandIn t = false by simpa using List.all_eq_true.1 hall t hm)⟩)
    (by kernel_rfl)
end Go.Proofs.YtjjeahnbppmigaaDoor
