/- For every row of picks, every task and every policy, bailiwicklaw25.SchedGaps returns true, and each argument reads behind the call as it did before; the package-level table that math/bits reads holds what the program's text lays. Condition: the table, as the card ties it. -/
import Derived.Test.YtdnnkmhgnomfgaaGreatDoorCards
import Derived.Test.YtdnnkmhgnomfgaaGreatDoorTie
import Derived.Test.YtdnnkmhgnomfgaaGreatDoorR2
import Derived.Test.YtdnnkmhgnomfgaaGreatDoorS5
import Derived.SevenTiedAt
import Derived.SizedLaws
namespace Go.Proofs.YtdnnkmhgnomfgaaGreatDoor
set_option maxRecDepth 100000
open Go.ChangeShapes Go.WideShapes Go.ChangeAt Go.WideMaps Go.WideElems Go.RowKit Go.Deep

theorem body6 : Tryz.f6.body = some (Tryz.f6.body.getD .skip) := rfl
theorem cells5 : Tryz.prog.cellsOf 5 = 1 := by kernel_rfl
theorem okRet_true {R : Ren} {s : SV} {m : SMem} {v : Value} (h : okRet s m) (hv : s.ok R v) : v = .bool true := by
  unfold okRet at h
  split at h
  · exact hv
  · have hv : v = .bool _ := hv
    rw [hv]
    subst h
    rfl
  · exact h.elim
/-- What a slice of bytes is: nil, or so many cells of a block that are bytes. -/
def BytesIn (W : World) (v : Value) : Prop :=
  v = .slice none 0 0 ∨ ∃ b off len cap cs ty fz, v = .slice (some ⟨b, off, none⟩) len cap ∧ len ≤ cap ∧ len ≤ 140737488355328 ∧ W.heap[b]? = some (.cells cs ty fz) ∧ (0 < len → off + len ≤ cs.size) ∧ ∀ j : Nat, j < len → ∃ n, cs.toList[off + j]? = some (.int .u8 n)
theorem bytes_in {H : Type} {enc : TypeId × Value → H} {W : World} {base base' : Nat} {fuel : Nat} {v : Value} {held : Bool} {x : DataW H × List MemPlace}
    (hok : Value.okWide Tryz.prog W .any base 108 v) (h : DataW.trod enc Tryz.prog W base' (fun _ => true) held fuel 108 [v] = some x) (hw : ∀ n ∈ x.1.weights Tryz.prog 108, n ≤ reachBytes) : BytesIn W v := by
  obtain ⟨A, len, cap, rfl⟩ := okWide_slice Tryz.underlying108 hok
  rcases slice_cells Tryz.underlying108 cells5 hok h with ⟨rfl, rfl, rfl⟩ | ⟨b, off, cs, ty, fz, rfl, hl, hm, ho, hj⟩
  · exact .inl rfl
  · have hcell : ∀ j : Nat, j < len → ∃ n, cs.toList[off + j]? = some (.int .u8 n) := by
      intro j hlt
      obtain ⟨n, y, hy⟩ := hj j hlt
      rw [Nat.mul_one] at hy
      obtain ⟨k, e1, _, _⟩ := DataW.trod_int Tryz.underlying5 hy
      exact ⟨k, sub_one e1⟩
    have hlen : len ≤ 140737488355328 := by
      rcases open_slice Tryz.underlying108 h with ⟨hcs, _⟩ | ⟨a, len', cap', m, n, D, Pl, hcs, _, _, _, _, hx, _⟩
      · simp at hcs
      · simp at hcs
        obtain ⟨_, rfl, _⟩ := hcs
        have b5 : Tryz.prog.bytesOf 5 = 1 := by kernel_rfl
        have := hw ((len + (m - len)) * Tryz.prog.bytesOf 5) (by rw [hx]; simp [DataW.weights, Tryz.underlying108])
        rw [b5] at this
        have hr : reachBytes < 2 ^ 47 := reachBytes_lt
        omega
    refine .inr ⟨b, off, len, cap, cs, ty, fz, rfl, hl, hlen, ho, fun h0 => ?_, hcell⟩
    obtain ⟨k, hk⟩ := hcell (len - 1) (by omega)
    have := (List.getElem?_eq_some_iff.1 hk).1
    simp only [Array.length_toList] at this
    omega
/-- A policy's cells. -/
theorem pol_in {H : Type} {enc : TypeId × Value → H} {W : World} {base base' : Nat} {fuel : Nat} {v : Value} {held : Bool} {x : DataW H × List MemPlace}
    (hok : Value.okWide Tryz.prog W .any base 110 v) (h : DataW.trod enc Tryz.prog W base' (fun _ => true) held fuel 110 v.cells.toList = some x) (hw : ∀ n ∈ x.1.weights Tryz.prog 110, n ≤ reachBytes) :
    ∃ k o s e la si, v = .agg #[.int .u8 k, o, .int .u64 s, .int .i64 e, .int .u8 la, .int .i64 si] ∧ BytesIn W o := by
  have hok' := hok
  simp only [Value.okWide, Tryz.underlying110] at hok'
  obtain ⟨cs, rfl, hsz, ts, hts, _, hcells⟩ := hok'
  have e6 : Tryz.prog.cellsOf 110 = 6 := by kernel_rfl
  rw [e6] at hsz
  have et : Tryz.prog.cellTypes Tryz.prog.depth 110 = some [5, 108, 57, 3, 5, 3] := by kernel_rfl
  rw [et] at hts
  cases hts
  have h : DataW.trod enc Tryz.prog W base' (fun _ => true) held fuel 110 cs.toList = some x := h
  obtain ⟨l, rfl⟩ : ∃ l : List Value, cs = l.toArray := ⟨cs.toList, by simp⟩
  match l, hsz with
  | [c0, c1, c2, c3, c4, c5], _ =>
    obtain ⟨_, k0, q0⟩ := hcells 0 c0 rfl
    obtain ⟨_, k1, q1⟩ := hcells 1 c1 rfl
    obtain ⟨_, k2, q2⟩ := hcells 2 c2 rfl
    obtain ⟨_, k3, q3⟩ := hcells 3 c3 rfl
    obtain ⟨_, k4, q4⟩ := hcells 4 c4 rfl
    obtain ⟨_, k5, q5⟩ := hcells 5 c5 rfl
    cases k0; cases k1; cases k2; cases k3; cases k4; cases k5
    have toV : ∀ {t : TypeId} {c : Value} {d : TypeDesc}, Tryz.prog.underlying t = some d → isA d = false → Cell.okWide Tryz.prog W .any base t c → Value.okWide Tryz.prog W .any base t c := by
      intro t c d hu hd hc
      unfold Value.okWide
      rw [hu]
      cases d <;> first | exact hc | cases hd
    obtain ⟨n0, rfl⟩ := okWide_int Tryz.underlying5 (toV Tryz.underlying5 rfl q0)
    obtain ⟨n2, rfl⟩ := okWide_int Tryz.underlying57 (toV Tryz.underlying57 rfl q2)
    obtain ⟨n3, rfl⟩ := okWide_int Tryz.underlying3 (toV Tryz.underlying3 rfl q3)
    obtain ⟨n4, rfl⟩ := okWide_int Tryz.underlying5 (toV Tryz.underlying5 rfl q4)
    obtain ⟨n5, rfl⟩ := okWide_int Tryz.underlying3 (toV Tryz.underlying3 rfl q5)
    refine ⟨n0, c1, n2, n3, n4, n5, rfl, ?_⟩
    obtain ⟨ys, n, _, hx, _, hyl, hg⟩ := DataW.trod_struct Tryz.underlying110 h
    have hyl : ys.length = 6 := hyl
    have hy : ys[1]? = some (ys[1]'(by omega)) := List.getElem?_eq_getElem (by omega)
    have h1 := (hg 1 _ rfl).trans hy
    have e1 : Tryz.prog.cellsOf 108 = 1 := by kernel_rfl
    refine bytes_in (base' := base') (held := held) (enc := enc) (toV Tryz.underlying108 rfl q1) (x := ys[1]'(by omega)) (fuel := n) ?_ fun w hm => hw w ?_
    · rw [← h1]
      show _ = DataW.trod enc Tryz.prog W base' (fun _ => true) held n 108 ((List.drop 1 _).take (Tryz.prog.cellsOf 108))
      rw [e1]
      rfl
    · rw [hx]
      simp only [DataW.weights, Tryz.underlying110]
      exact DataW.weights_mem_each (j := 1) (t := 108) rfl (by rw [List.getElem?_map, hy]; rfl) w hm
/-- The policy, as the machine knows it. -/
theorem pol_ok {R : Ren} {k s e la si : Int} {o : SF} {u : Value} (h : o.ok R u) : (polS k o s e la si).ok R (.agg #[.int .u8 k, u, .int .u64 s, .int .i64 e, .int .u8 la, .int .i64 si]) :=
  ⟨_, rfl, rfl, h, rfl, rfl, rfl, rfl, trivial⟩
/-- From an answer to a call. -/
theorem calls_of {W : World} {l : List SV} {args : Array Value} {m : SMem} {R : Ren} (hg : Good Tryz.prog okRet m.next [callFr 6 Tryz.f6.ntmps l (Tryz.f6.body.getD .skip)] m) (hl : All2 (SV.ok R) l args.toList) (hR : Rel W.heap.size (fun _ => False) W R m W) :
    Calls Tryz.prog 6 args W fun e w' => e = .returned (.bool true) ∧ Below W.heap.size W w' := by
  have h := answers_of_good Tryz.func6 body6 hg hl hR
  unfold Answers at h
  refine h.mono ?_
  rintro e w' ⟨v, rfl, s', m', R', hr, _, hR', hv⟩
  exact ⟨by rw [okRet_true hr hv], below_of hR'.fr⟩
theorem picks_in {cs : Array Value} {off len : Nat} (h : ∀ j : Nat, j < len → ∃ n, cs.toList[off + j]? = some (.int .u8 n)) : PicksOk cs off len := fun j hj => by
  obtain ⟨n, hn⟩ := h j hj
  exact isInt_of hn
theorem one_in {cs : Array Value} {off len : Nat} (h : ∀ j : Nat, j < len → ∃ n, cs.toList[off + j]? = some (.int .u8 n)) : ∀ v : Value, v ∈ (cs.extract off (off + len)).toList → v.oneCell' = true := by
  intro v hv
  obtain ⟨i, hi, rfl⟩ := List.getElem_of_mem hv
  have hi' : i < len := by
    simp only [Array.length_toList, Array.size_extract] at hi
    omega
  obtain ⟨n, hn⟩ := h i hi'
  have e : ((cs.extract off (off + len)).toList)[i] = .int .u8 n := by
    have h1 : ((cs.extract off (off + len)).toList)[i]? = some (.int .u8 n) := by
      rw [Array.getElem?_toList, Array.getElem?_extract]
      rw [Array.getElem?_toList] at hn
      have hlt := (Array.getElem?_eq_some_iff.1 hn).1
      rw [if_pos (by omega)]
      exact hn
    rw [List.getElem?_eq_getElem hi] at h1
    exact Option.some.inj h1
  rw [e]
  rfl
theorem gaps_call {W : World} {v o : Value} {t k s e la si : Int} (hL : laidMetH Tryz.prog laidL W) (hv : BytesIn W v) (ho : BytesIn W o) :
    Calls Tryz.prog 6 #[v, .int .u8 t, .agg #[.int .u8 k, o, .int .u64 s, .int .i64 e, .int .u8 la, .int .i64 si]] W fun e w' => e = .returned (.bool true) ∧ Below W.heap.size W w' := by
  have h0 := rel_start hL 2
  have nn : okRet (sB (.l true)) ⟨0, .nil, []⟩ := trivial
  rcases hv with rfl | ⟨b, off, n, cap, cs, ty, fz, rfl, hl, _, hb, _, hcell⟩
  · rcases ho with rfl | ⟨b2, o2, n2, cap2, es, ty2, fz2, rfl, hl2, hm2, hb2, hs2, hcell2⟩
    · exact calls_of (m := ⟨2, .nil, []⟩) (run_vc ES_ok.go 1000 (n_nil t k s e la si) trivial (fun _ _ h => h) fun _ _ h => h.elim) ⟨⟨rfl, rfl⟩, rfl, pol_ok ⟨rfl, rfl⟩, trivial⟩ h0
    · obtain ⟨h1, _⟩ := rel_add h0 (onlyRead_nil 2) (i := 1) (b := b2) (by decide) rfl hb2
      by_cases hz : n2 = 0
      · subst hz
        exact calls_of (m := m2 es ty2) (run_vc ES_ok.go 1000 (n_em o2 es ty2 t k s e la si) trivial (fun _ _ h => h) fun _ _ h => h.elim) ⟨⟨rfl, rfl⟩, rfl, pol_ok ⟨⟨b2, es.size⟩, cap2, rfl, rfl, trivial, hl2⟩, trivial⟩ h1
      · exact calls_of (m := m2 es ty2) (run_vc ES_ok.go 1000 (n_so o2 n2 es ty2 t k s e la si) (by
          rw [Nat.mul_one]
          exact ⟨⟨hs2 (by omega), one_in hcell2, ⟨by omega, by omega⟩, trivial⟩, trivial⟩) (fun _ _ h => h) fun _ _ h => h.elim) ⟨⟨rfl, rfl⟩, rfl, pol_ok ⟨⟨b2, es.size⟩, cap2, rfl, rfl, trivial, hl2⟩, trivial⟩ h1
  · obtain ⟨h1, ho1⟩ := rel_add h0 (onlyRead_nil 2) (i := 0) (b := b) (by decide) rfl hb
    have hP : n ≤ 300 → PicksOk cs off n := fun _ => picks_in hcell
    rcases ho with rfl | ⟨b2, o2, n2, cap2, es, ty2, fz2, rfl, hl2, hm2, hb2, hs2, hcell2⟩
    · exact calls_of (m := m0 cs ty) (gaps_nil hP) ⟨⟨⟨b, cs.size⟩, cap, rfl, rfl, trivial, hl⟩, rfl, pol_ok ⟨rfl, rfl⟩, trivial⟩ h1
    · obtain ⟨h2, _⟩ := rel_add h1 ho1 (i := 1) (b := b2) (show 1 < 2 by decide) rfl hb2
      by_cases hz : n2 = 0
      · subst hz
        exact calls_of (m := m1 cs ty es ty2) (gaps_em hP) ⟨⟨⟨b, cs.size⟩, cap, rfl, rfl, trivial, hl⟩, rfl, pol_ok ⟨⟨b2, es.size⟩, cap2, rfl, rfl, trivial, hl2⟩, trivial⟩ h2
      · exact calls_of (m := m1 cs ty es ty2) (gaps_so hP (hs2 (by omega)) (one_in hcell2) hm2) ⟨⟨⟨b, cs.size⟩, cap, rfl, rfl, trivial, hl⟩, rfl, pol_ok ⟨⟨b2, es.size⟩, cap2, rfl, rfl, trivial, hl2⟩, trivial⟩ h2
end Go.Proofs.YtdnnkmhgnomfgaaGreatDoor
