/- Of mark: Waiting. No condition. -/
import Derived.Test.YtdbhbpkdefbibaaM8
namespace Go.Proofs.Ytdbhbpkdefbibaa

def nilS : SV := .s (.c (.f (.lit (.slice none 0 0))))
noncomputable def waitTodo : List Item := (run E3 1000 ⟨15, padN Try.f15.ntmps ((two #[] 0).map some), [.code (Try.f15.body.getD .skip)], 0⟩ ⟨0, []⟩).todo
noncomputable def waitN (n : Nat) (k : Int) (td : List Item) : SFr :=
  ⟨15, tmOf 31 [(5, nilS), (18, .s (.c (.f (.slice 0 (.l 3) (.o n) .any)))), (19, i64 (.o n)), (20, i64 (.o k))], td, 0⟩
noncomputable def waitC (n k : Nat) (td : List Item) : SFr :=
  ⟨15, tmOf 31 [(5, .s (.c (.f (.slice 1 (.l 0) (.o k) (.full 1))))), (18, .s (.c (.f (.slice 0 (.l 3) (.o n) .any)))), (19, i64 (.o n)), (20, i64 (.o k))], td, 0⟩
def memN (xs : Array Value) : SMem := ⟨1, [⟨0, .op xs, 26, false⟩]⟩
def memC (xs acc : Array Value) : SMem := ⟨2, [⟨0, .op xs, 26, false⟩, ⟨1, .pop acc, 3, true⟩]⟩
def rowS (r : Nat) : SV := .s (.c (.f (.slice 0 (.l 0) (.o r) (.full 1))))
def rowM (res : Array Value) : SMem := ⟨1, [⟨0, .pop res, 3, true⟩]⟩
def slotAt (cs : Array Value) (o : Nat) : Array Value := cs.extract o (o + 11)
noncomputable def waitF (cs : Array Value) (s : Int) (p : List Bool) : Prop :=
  (run E3 1000 ⟨15, padN Try.f15.ntmps ((two cs s).map some), [.code (Try.f15.body.getD .skip)], 0⟩ ⟨0, []⟩).follow (retOk 0 [] nilS ⟨0, []⟩) (fun _ _ => False) p
section
variable (cs xs acc acc' res : Array Value) (s : Int) (n k r : Nat)
theorem wait_n1 : waitF cs s [false] = ((decide (s ≥ 0) == true) = false ∧ Value.slice none 0 0 = Value.slice none 0 0 ∧ True) := by kernel_rfl
theorem wait_n2 : waitF cs s [true, false] = ((decide (s ≥ 0) == true) = true ∧ decide (s < 32) = false ∧ Value.slice none 0 0 = Value.slice none 0 0 ∧ True) := by kernel_rfl
theorem wait_y : (run E3 1000 ⟨15, padN Try.f15.ntmps ((two cs s).map some), [.code (Try.f15.body.getD .skip)], 0⟩ ⟨0, []⟩).follow (fun _ _ => False) (subOk [(0, 1)] (waitN n 0 waitTodo) (memN xs)) [true, true] = ((decide (s ≥ 0) == true) = true ∧ decide (s < 32) = true ∧ ((0 ≤ s ∧ s < (32 : Nat)) ∧ True) ∧ (so s + 11 ≤ cs.size ∧ True) ∧
    ((slotAt cs (so s)).size = 11 ∧ (slotAt cs (so s)).size = 11 ∧ True) ∧ (IsInt .u8 (slotAt cs (so s)) 2 ∧ True) ∧ (0 ≤ intAt (slotAt cs (so s)) 2 ∧ (intAt (slotAt cs (so s)) 2).toNat ≤ 8 ∧ True) ∧
    TodoOk waitTodo waitTodo ∧ Value.slice none 0 0 = Value.slice none 0 0 ∧ n = (intAt (slotAt cs (so s)) 2).toNat - 0 ∧ (n : Int) = ((intAt (slotAt cs (so s)) 2).toNat - 0 : Nat) ∧ (0 : Int) = 0 ∧ (26 : Nat) = 26 ∧ xs = slotAt cs (so s) ∧ True) := by kernel_rfl
noncomputable def roundN (p : List Bool) : Prop :=
  (stepT E3.go (run E3 1000) (waitN n 0 (headL waitTodo)) (memN xs) (waitN n 0 (headL waitTodo)).todo).follow (fun _ _ => False) (subOk [(0, 0), (1, 2)] (waitC n 1 (headL waitTodo)) (memC xs acc)) p
theorem roundN_end : (stepT E3.go (run E3 1000) (waitN n 0 (headL waitTodo)) (memN xs) (waitN n 0 (headL waitTodo)).todo).follow (retOk 0 [] nilS ⟨0, []⟩) (fun _ _ => False) [false] =
    (decide ((0 : Int) < n) = false ∧ Value.slice none 0 0 = Value.slice none 0 0 ∧ True) := by kernel_rfl
theorem roundN_go : roundN xs acc n [true] = (decide ((0 : Int) < n) = true ∧ (((0 : Int) ≤ 0 ∧ (0 : Int) < n) ∧ True) ∧ (IsInt .u8 xs 3 ∧ True) ∧ TodoOk (headL waitTodo) (headL waitTodo) ∧ (1 : Nat) = 1 ∧ n = n ∧ (n : Int) = n ∧
    ((1 : Nat) : Int) = IntKind.i64.wrap (0 + 1) ∧ (26 : Nat) = 26 ∧ xs = xs ∧ (3 : Nat) = 3 ∧ acc = #[Value.int .i64 (IntKind.i64.wrap (intAt xs 3))] ∧ True) := by kernel_rfl
noncomputable def roundC (p : List Bool) : Prop :=
  (stepT E3.go (run E3 1000) (waitC n k (headL waitTodo)) (memC xs acc) (waitC n k (headL waitTodo)).todo).follow (retOk 0 [(0, 1)] (rowS r) (rowM res)) (subOk [(0, 0), (1, 3)] (waitC n (k + 1) (headL waitTodo)) (memC xs acc')) p
theorem roundC_end : (stepT E3.go (run E3 1000) (waitC n k (headL waitTodo)) (memC xs acc) (waitC n k (headL waitTodo)).todo).follow (retOk 0 [(0, 1)] (rowS r) (rowM res)) (fun _ _ => False) [false] = (decide ((k : Int) < n) = false ∧ r = k ∧ (3 : Nat) = 3 ∧ res = acc ∧ True) := by kernel_rfl
theorem roundC_go : roundC xs acc acc' res n k r [true] = (decide ((k : Int) < n) = true ∧ ((0 ≤ (k : Int) ∧ (k : Int) < n) ∧ True) ∧ (IsInt .u8 xs (3 + (k : Int).toNat * 1) ∧ True) ∧
    (((k + 1) * 8 ≤ 140737488355328 ∧ k + 1 ≤ 140737488355328) ∧ k * 1 = acc.size ∧ True) ∧ TodoOk (headL waitTodo) (headL waitTodo) ∧ k + 1 = k + 1 ∧ n = n ∧ (n : Int) = n ∧ ((k + 1 : Nat) : Int) = IntKind.i64.wrap (k + 1) ∧
    (26 : Nat) = 26 ∧ xs = xs ∧ (3 : Nat) = 3 ∧ acc' = acc ++ #[Value.int .i64 (IntKind.i64.wrap (intAt xs (3 + (k : Int).toNat * 1)))] ∧ True) := by kernel_rfl
end

def waitA (row : List Nat) : Array Value := (row.map fun t => Value.int .i64 (t : Nat)).toArray
def waitR (cs : Array Value) (s : Int) : List Nat := if decide (0 ≤ s ∧ s < 32) then lOf cs s.toNat else []
section
variable {h : Nat → Option Nat} {l : Nat → List Nat}
theorem slot_get {i c : Nat} (hi : i < 32) (hc : c < 11) : (slotAt (mk h l) (i * 11))[c]? = (mk h l)[i * 11 + c]? := by
  unfold slotAt
  rw [Array.getElem?_extract, mk_size, if_pos (by omega)]
theorem slot_size {i : Nat} (hi : i < 32) : (slotAt (mk h l) (i * 11)).size = 11 := by
  unfold slotAt
  rw [Array.size_extract, mk_size]
  omega
theorem slot_count {i : Nat} (hi : i < 32) : (slotAt (mk h l) (i * 11))[2]? = some (.int .u8 ((l i).length : Nat)) := by rw [slot_get hi (by omega), int_count hi]
theorem slot_place {i c : Nat} (hi : i < 32) (hc : c < 8) : (slotAt (mk h l) (i * 11))[3 + c]? = some (.int .u8 ((l i).getD c 0 : Nat)) := by
  rw [slot_get hi (by omega), ← int_place hi hc, show i * 11 + (3 + c) = i * 11 + 3 + c by omega]
theorem waitA_push (row : List Nat) {k : Nat} (hk : k < row.length) : waitA (row.take (k + 1)) = waitA (row.take k) ++ #[.int .i64 (row.getD k 0 : Nat)] := by
  unfold waitA
  rw [List.take_add_one, List.map_append, List.getElem?_eq_getElem hk, List.getD_eq_getElem?_getD, List.getElem?_eq_getElem hk]
  simp
theorem wait_loop (F : Fine h l) {i : Nat} (hi : i < 32) : ∀ r k, 0 < k → k + r = (l i).length →
    Good Try.prog (retOk 0 [(0, 1)] (rowS (l i).length) (rowM (waitA (l i)))) (waitC (l i).length k (headL waitTodo)) (memC (slotAt (mk h l) (i * 11)) (waitA ((l i).take k))) := by
  have hn := F.len i
  intro r
  induction r with
  | zero =>
    intro k _ hkr
    have hkr : k = (l i).length := by omega
    subst hkr
    refine past_way E3_ok 1000 (roundC_end _ _ (waitA (l i)) _ _ (l i).length) ⟨decide_eq_false (by omega), rfl, rfl, ?_, trivial⟩ (fun _ _ h => h) (fun f m h => h.elim)
    rw [List.take_length]
  | succ r ih =>
    intro k hk hkr
    have hp := slot_place (h := h) (l := l) hi (show k < 8 by omega)
    have hkk : (k : Int).toNat * 1 = k := by omega
    have hlt := F.getD i k
    refine past_way E3_ok 1000 (roundC_go _ _ (waitA ((l i).take (k + 1))) (waitA (l i)) _ _ (l i).length)
      ⟨decide_eq_true (by omega), ⟨⟨by omega, by omega⟩, trivial⟩, ⟨by rw [hkk]; exact isInt_of hp, trivial⟩, ⟨⟨by omega, by omega⟩, ?_, trivial⟩, rfl, rfl, rfl, rfl, (wrap64_of (by omega) (by omega)).symm, rfl, rfl, rfl, ?_, trivial⟩
      (fun _ _ h => h) (fun f m h => Good.of_sub h (ih (k + 1) (by omega) (by omega)))
    · unfold waitA
      rw [List.size_toArray, List.length_map, List.length_take]
      omega
    · rw [hkk, intAt_of hp, wrap64_of (by omega) (by omega)]
      exact waitA_push _ (by omega)
theorem wait_start (F : Fine h l) {i : Nat} (hi : i < 32) {A : SV → SMem → Prop} (hg : Good Try.prog A (waitN (l i).length 0 (headL waitTodo)) (memN (slotAt (mk h l) (i * 11)))) :
    Good Try.prog A ⟨15, padN Try.f15.ntmps ((two (mk h l) i).map some), [.code (Try.f15.body.getD .skip)], 0⟩ ⟨0, []⟩ := by
  have hn := F.len i
  have hc := intAt_of (slot_count (h := h) (l := l) hi)
  have hs := slot_size (h := h) (l := l) hi
  refine run_way E3_ok 1000 (wait_y (mk h l) (slotAt (mk h l) (i * 11)) i (l i).length) ?_ (fun _ _ h => h.elim) (fun f m h => Good.of_sub h (Good.head hg))
  rw [so_at, hc, hs, mk_size]
  exact ⟨ge0 (by omega), decide_eq_true (by omega), ⟨⟨by omega, by omega⟩, trivial⟩, ⟨by omega, trivial⟩, ⟨rfl, rfl, trivial⟩, ⟨isInt_of (slot_count hi), trivial⟩, ⟨by omega, by omega, trivial⟩, rfl, rfl, by omega, by omega, rfl, rfl, rfl, trivial⟩
/-- nil, if nobody waits; else a row of its own. -/
theorem wait_nil (F : Fine h l) (s : Int) (he : waitR (mk h l) s = []) : Good Try.prog (fun sv m => sv = nilS ∧ m = ⟨0, []⟩) ⟨15, padN Try.f15.ntmps ((two (mk h l) s).map some), [.code (Try.f15.body.getD .skip)], 0⟩ ⟨0, []⟩ := by
  by_cases h1 : 0 ≤ s
  case neg => exact Good.ret [] (run_way E3_ok 1000 (A := retOk 0 [] nilS ⟨0, []⟩) (B := fun _ _ => False) (wait_n1 (mk h l) s) ⟨not_ge0 h1, rfl, trivial⟩ (fun _ _ h => h) (fun f m h => h.elim))
  by_cases h2 : s < 32
  case neg => exact Good.ret [] (run_way E3_ok 1000 (A := retOk 0 [] nilS ⟨0, []⟩) (B := fun _ _ => False) (wait_n2 (mk h l) s) ⟨ge0 h1, decide_eq_false h2, rfl, trivial⟩ (fun _ _ h => h) (fun f m h => h.elim))
  obtain ⟨i, rfl⟩ := Int.eq_ofNat_of_zero_le h1
  have hi : i < 32 := by omega
  have hl : l i = [] := by
    unfold waitR at he
    rw [decide_eq_true (by omega), if_pos rfl, lOf_eq F, Int.toNat_natCast] at he
    exact he
  refine Good.ret [] (wait_start F hi (past_way E3_ok 1000 (A := retOk 0 [] nilS ⟨0, []⟩) (B := fun _ _ => False) (roundN_end (slotAt (mk h l) (i * 11)) (l i).length) ⟨?_, rfl, trivial⟩ (fun _ _ h => h) (fun f m h => h.elim)))
  rw [hl]
  rfl
theorem wait_row (F : Fine h l) (s : Int) (he : waitR (mk h l) s ≠ []) :
    Good Try.prog (fun sv m => sv = rowS (waitR (mk h l) s).length ∧ m = rowM (waitA (waitR (mk h l) s))) ⟨15, padN Try.f15.ntmps ((two (mk h l) s).map some), [.code (Try.f15.body.getD .skip)], 0⟩ ⟨0, []⟩ := by
  have hv : 0 ≤ s ∧ s < 32 := by
    apply Classical.byContradiction
    intro hc
    apply he
    unfold waitR
    rw [decide_eq_false hc]
    rfl
  obtain ⟨i, rfl⟩ := Int.eq_ofNat_of_zero_le hv.1
  have hi : i < 32 := by omega
  have hn := F.len i
  have hl : waitR (mk h l) i = l i := by
    unfold waitR
    rw [decide_eq_true hv, if_pos rfl, lOf_eq F, Int.toNat_natCast]
  rw [hl] at he ⊢
  have h0 : 0 < (l i).length := List.length_pos_iff.2 he
  have hp := slot_place (h := h) (l := l) hi (show 0 < 8 by omega)
  have hlt := F.getD i 0
  refine Good.ret [(0, 1)] (wait_start F hi (past_way E3_ok 1000 (roundN_go (slotAt (mk h l) (i * 11)) (waitA ((l i).take 1)) (l i).length)
    ⟨decide_eq_true (by omega), ⟨⟨by omega, by omega⟩, trivial⟩, ⟨isInt_of hp, trivial⟩, rfl, rfl, rfl, rfl, (wrap64_of (by omega) (by omega)).symm, rfl, rfl, rfl, ?_, trivial⟩ (fun _ _ h => h.elim)
    (fun f m h => Good.of_sub h (wait_loop F hi ((l i).length - 1) 1 (by omega) (by omega)))))
  rw [intAt_of hp, wrap64_of (by omega) (by omega)]
  have := waitA_push (l i) h0
  rw [this]
  rfl
end

theorem all2_two {R : Ren} {cs : Array Value} {s : SI} : ∀ {vs : List Value}, All2 (SV.ok R) [agg cs, i64 s] vs → All2 (SV.ok R) (two cs s.den) vs
  | [_, _], h => h
  | [], h => h.elim
  | [_], h => h.2.elim
  | _ :: _ :: _ :: _, h => h.2.2.elim
theorem all2_three {R : Ren} {cs : Array Value} {s t : SI} : ∀ {vs : List Value}, All2 (SV.ok R) [agg cs, i64 s, i64 t] vs → All2 (SV.ok R) (three cs s.den t.den) vs
  | [_, _, _], h => h
  | [], h => h.elim
  | [_], h => h.2.elim
  | [_, _], h => h.2.2.elim
  | _ :: _ :: _ :: _ :: _, h => h.2.2.2.elim
def conWait (l : List SV) (m : SMem) : Option Tree :=
  match l with
  | [.s (.agg (.op cs)), .s (.c (.f (.int .i64 s)))] => some (needs [IsM cs] (.br (decide (waitR cs s.den = [])) (.ret nilS m)
      (.ret (.s (.c (.f (.slice m.next (.l 0) (.o (waitR cs s.den).length) (.full 1))))) ⟨m.next + 1, ⟨m.next, .pop (waitA (waitR cs s.den)), 3, true⟩ :: m.bl⟩)))
  | _ => none
theorem conWait_ok {l : List SV} {m : SMem} {t : Tree} {A : SV → SMem → Prop} (h : conWait l m = some t) (hs : t.sat A (fun _ _ => False)) {n0 : Nat} {F : Nat → Prop} {w0 w : World} {R : Ren} {args : Array Value}
    (hl : All2 (SV.ok R) l args.toList) (hR : Rel n0 F w0 R m w) : Answers Try.prog 15 args w fun u w' => ∃ s m' R', A s m' ∧ ExtN w w' m.next m'.next R R' ∧ Rel n0 F w0 R' m' w' ∧ s.ok R' u := by
  unfold conWait at h
  split at h
  case h_2 => cases h
  rename_i cs s
  cases h
  obtain ⟨hq, hA⟩ := Tree.sat_needs hs
  obtain ⟨hh, ll, hf, rfl⟩ : IsM cs := hq _ (List.mem_singleton.2 rfl)
  have hl' : All2 (SV.ok R) (two (mk hh ll) s.den) args.toList := all2_two hl
  have hbody : Try.f15.body = some (Try.f15.body.getD .skip) := rfl
  by_cases he : waitR (mk hh ll) s.den = []
  · exact pure_ok Try.func15 hbody (wait_nil hf s.den he) (two_no _ _) rfl (hA.1 (decide_eq_true he)) hl' hR
  · refine (frame (P := Try.prog) (l := two (mk hh ll) s.den) (ms := ⟨0, []⟩) (ms' := rowM (waitA (waitR (mk hh ll) s.den))) (s0 := rowS (waitR (mk hh ll) s.den).length) Try.func15 hbody (wait_row hf s.den he) (ι := fun i => i) (m := m)
      (fun i j hi _ _ => absurd hi (Nat.not_lt_zero i)) (fun i hi => absurd hi (Nat.not_lt_zero i)) (fun i b hb => by cases hb) (fun i b hb => by cases hb) (fun i b _ hi => absurd hi (Nat.not_lt_zero i)) (Nat.zero_le _) (all2_any (two_no _ _) hl') hR).mono ?_
    rintro u w' ⟨R', h1, h2, h3⟩
    exact ⟨_, _, R', hA.2 (decide_eq_false he), h1, h2, h3⟩
end Go.Proofs.Ytdbhbpkdefbibaa
