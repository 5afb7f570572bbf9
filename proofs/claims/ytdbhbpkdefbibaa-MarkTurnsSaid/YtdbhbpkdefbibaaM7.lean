/- Of mark: what Try does. No condition. -/
import Derived.Test.YtdbhbpkdefbibaaM6
namespace Go.Proofs.Ytdbhbpkdefbibaa

def tryOn (s t : Int) : Bool := decide (0 ≤ s ∧ s < 32 ∧ 0 ≤ t ∧ t < 8)
def tryM (cs : Array Value) (s t : Int) : Array Value :=
  if tryOn s t then mk (tryH (hOf cs) (lOf cs) s.toNat t.toNat) (tryL (hOf cs) (lOf cs) s.toNat t.toNat) else cs
def tryOk (cs : Array Value) (s t : Int) : Bool := tryOn s t && tryB (hOf cs) (lOf cs) s.toNat t.toNat
section
variable {h : Nat → Option Nat} {l : Nat → List Nat}
theorem so_at (i : Nat) : so (i : Int) = i * 11 := by unfold so; omega
theorem tEnd_mk {Y X : Array Value} {h' : Nat → Option Nat} {l' : Nat → List Nat} {b c : Bool} (hY : Y = mk h' l') (hX : X = mk h' l') (hb : b = c) : tEnd Y X b c := by
  have e : Y.size = 352 := by rw [hY, mk_size]
  exact ⟨⟨e, trivial⟩, ⟨e, e, trivial⟩, ⟨e, trivial⟩, hX.trans hY.symm, hb, trivial⟩
theorem isBool_of {cs : Array Value} {i : Nat} {b : Bool} (e : cs[i]? = some (.bool b)) : IsBool cs i := by unfold IsBool boolAt; rw [e]
theorem boolAt_of {cs : Array Value} {i : Nat} {b : Bool} (e : cs[i]? = some (.bool b)) : boolAt cs i = b := by unfold boolAt; rw [e]
theorem tPre_mk (F : Fine h l) {i u : Nat} (hi : i < 32) (hu : u < 8) {R : Prop} (hR : R) : tPre (mk h l) i u R := by
  refine ⟨?_, ?_, ?_, ?_, ⟨⟨by omega, by omega⟩, trivial⟩, ⟨by rw [so_at]; exact places_mk F hi, trivial⟩, ⟨by rw [so_at]; exact isBool_of (bool_has hi), trivial⟩, hR⟩
  · have : (0 : Int) ≤ i := by omega
    simp [this]
  · have : (i : Int) < 32 := by omega
    simp [this]
  · have : (0 : Int) ≤ u := by omega
    simp [this]
  · have : (u : Int) < 8 := by omega
    simp [this]
theorem mkTry (F : Fine h l) {i u : Nat} (hi : i < 32) (hu : u < 8) : tryM (mk h l) i u = mk (tryH h l i u) (tryL h l i u) ∧ tryOk (mk h l) i u = tryB h l i u := by
  have e : tryOn i u = true := by unfold tryOn; exact decide_eq_true (by omega)
  unfold tryM tryOk
  rw [e, hOf_eq F, lOf_eq F, if_pos rfl, Bool.true_and, Int.toNat_natCast, Int.toNat_natCast]
  exact ⟨rfl, rfl⟩
theorem j1_size {i : Nat} {t : Int} : (j1 (mk h l) (i * 11) t).size = 352 := by unfold j1; rw [Array.size_setIfInBounds, mk_size]
theorem j1_count {i : Nat} {t : Int} (hi : i < 32) : (j1 (mk h l) (i * 11) t)[i * 11 + 2]? = some (.int .u8 ((l i).length : Nat)) := by
  unfold j1
  rw [Array.getElem?_setIfInBounds, if_neg (by omega), int_count hi]
theorem j2_mk (F : Fine h l) {i u : Nat} (hi : i < 32) (hu : u < 8) (hn : u ∉ l i) : j2 (mk h l) (i * 11) u = mk h (upd l i (l i ++ [u])) := by
  have hr := F.room hu hn
  have e1 : i * 11 + 3 + (((l i).length : Nat) : Int).toNat * 1 = i * 11 + 3 + (l i).length := by omega
  have e2 : IntKind.u8.wrap (((l i).length : Nat) + 1 : Int) = ((l i).length + 1 : Nat) := by rw [IntWalk.u8_in _ (by omega)]; omega
  unfold j2
  rw [intAt_of (j1_count hi), e2]
  unfold j1
  rw [intAt_of (int_count hi), e1, IntWalk.u8_in _ (by omega)]
  exact set_join hi hr
theorem w2_mk (F : Fine h l) {i u : Nat} (hi : i < 32) (hu : u < 8) : w2 (mk h l) (i * 11) u = mk (upd h i (some u)) (upd l i ((l i).erase u)) := by
  unfold w2
  rw [leaveOf_mk F, IntWalk.u8_in _ (by omega)]
  exact set_has hi (some u)
theorem leave_size (F : Fine h l) (i u : Nat) : (leaveOf (mk h l) (i * 11) u).size = 352 := by rw [leaveOf_mk F, mk_size]
theorem try_good (F : Fine h l) (s t : Int) : Good Try.prog (fun sv m => sv = .tup [.agg (.op (tryM (mk h l) s t)), .c (.f (.bool (.o (tryOk (mk h l) s t))))] ∧ m = ⟨0, []⟩)
    ⟨11, padN Try.f11.ntmps [some (agg (mk h l)), some (i64 (.o s)), some (i64 (.o t))], [.code (Try.f11.body.getD .skip)], 0⟩ ⟨0, []⟩ := by
  have way : ∀ {p V}, tryF (mk h l) s t (tryM (mk h l) s t) (tryOk (mk h l) s t) p = V → V → _ := fun {p V} e hV =>
    Good.ret (s0m := ⟨0, []⟩) (s0 := .tup [.agg (.op (tryM (mk h l) s t)), .c (.f (.bool (.o (tryOk (mk h l) s t))))]) [] (run_way E3_ok 1000 (A' := retOk 0 [] (.tup [.agg (.op (tryM (mk h l) s t)), .c (.f (.bool (.o (tryOk (mk h l) s t))))]) ⟨0, []⟩) e hV (fun _ _ h => h) (fun _ _ h => h.elim))
  have off : ¬ (0 ≤ s ∧ s < 32 ∧ 0 ≤ t ∧ t < 8) → tryM (mk h l) s t = mk h l ∧ false = tryOk (mk h l) s t := fun hc => by
    have e : tryOn s t = false := by unfold tryOn; exact decide_eq_false hc
    unfold tryM tryOk
    rw [e, if_neg (by decide), Bool.false_and]
    exact ⟨rfl, rfl⟩
  by_cases h1 : 0 ≤ s
  case neg =>
    obtain ⟨e1, e2⟩ := off (by omega)
    exact way (try_n1 _ _ _ _ _) ⟨by simp [h1], tEnd_mk rfl e1 e2.symm⟩
  by_cases h2 : s < 32
  case neg =>
    obtain ⟨e1, e2⟩ := off (by omega)
    exact way (try_n2 _ _ _ _ _) ⟨by simp [h1], by simp [h2], tEnd_mk rfl e1 e2.symm⟩
  by_cases h3 : 0 ≤ t
  case neg =>
    obtain ⟨e1, e2⟩ := off (by omega)
    exact way (try_n3 _ _ _ _ _) ⟨by simp [h1], by simp [h2], by simp [h3], tEnd_mk rfl e1 e2.symm⟩
  by_cases h4 : t < 8
  case neg =>
    obtain ⟨e1, e2⟩ := off (by omega)
    exact way (try_n4 _ _ _ _ _) ⟨by simp [h1], by simp [h2], by simp [h3], by simp [h4], tEnd_mk rfl e1 e2.symm⟩
  obtain ⟨i, rfl⟩ := Int.eq_ofNat_of_zero_le h1
  obtain ⟨u, rfl⟩ := Int.eq_ofNat_of_zero_le h3
  have hi : i < 32 := by omega
  have hu : u < 8 := by omega
  obtain ⟨eM, eB⟩ := mkTry F hi hu
  have hbool := boolAt_of (bool_has (h := h) (l := l) hi)
  have htask := intAt_of (int_task (h := h) (l := l) hi)
  have hcount := intAt_of (int_count (h := h) (l := l) hi)
  have hisb : IsBool (mk h l) (so (i : Int) + 0) := by rw [so_at]; exact isBool_of (bool_has hi)
  have hist : IsInt .u8 (mk h l) (so (i : Int) + 1) := by rw [so_at]; exact isInt_of (int_task hi)
  have hisc : IsInt .u8 (mk h l) (so (i : Int) + 2) := by rw [so_at]; exact isInt_of (int_count hi)
  have hn := F.len i
  have hjoin : u ∉ l i → (IsInt .u8 (mk h l) (so (i : Int) + 2) ∧ (0 ≤ intAt (mk h l) (so (i : Int) + 2) ∧ intAt (mk h l) (so (i : Int) + 2) < (8 : Nat)) ∧ so (i : Int) + 3 + (intAt (mk h l) (so (i : Int) + 2)).toNat * 1 < (mk h l).size ∧ True) ∧
      (IsInt .u8 (j1 (mk h l) (so (i : Int)) u) (so (i : Int) + 2) ∧ True) ∧ (so (i : Int) + 2 < (j1 (mk h l) (so (i : Int)) u).size ∧ True) := fun hm => by
    have hr := F.room hu hm
    rw [so_at, hcount, j1_size, mk_size]
    exact ⟨⟨isInt_of (int_count hi), ⟨by omega, by omega⟩, by omega, trivial⟩, ⟨isInt_of (j1_count hi), trivial⟩, ⟨by omega, trivial⟩⟩
  have hleave : (LeaveOk (mk h l) (so (i : Int)) u ∧ True) ∧ (so (i : Int) + 0 < (leaveOf (mk h l) (so (i : Int)) u).size ∧ True) ∧ (so (i : Int) + 1 < ((leaveOf (mk h l) (so (i : Int)) u).setIfInBounds (so (i : Int) + 0) (.bool true)).size ∧ True) := by
    rw [so_at, Array.size_setIfInBounds, leave_size F]
    exact ⟨⟨⟨h, l, i, u, F, rfl, hi, rfl, rfl⟩, trivial⟩, ⟨by omega, trivial⟩, ⟨by omega, trivial⟩⟩
  obtain ⟨k1, k2, k3⟩ := hleave
  cases hh : h i with
  | some x =>
    rw [hh] at hbool htask
    have hx : x < 8 := F.has i x hh
    have ht1 : intAt (mk h l) (i * 11 + 1) = (x : Nat) := htask
    have hb1 : boolAt (mk h l) (so (i : Int) + 0) = true := by rw [so_at]; exact hbool
    have hw : IntKind.i64.wrap (intAt (mk h l) (so (i : Int) + 1)) = (x : Nat) := by rw [so_at, ht1, wrap64_of (by omega) (by omega)]
    by_cases hxu : x = u
    · subst hxu
      have hm := F.apart i x hh
      have eb : tryB h l i x = true := by unfold tryB; rw [hh]; simp
      refine way (try_h3 _ _ _ _ _) (tPre_mk F hi hu ⟨by rw [hb1]; rfl, ⟨hisb, trivial⟩, by rw [hb1]; rfl, ⟨hist, trivial⟩, by rw [hw]; simp, tEnd_mk rfl ?_ ?_⟩)
      · rw [eM]
        unfold tryH tryL
        rw [eb, List.erase_of_not_mem hm, upd_self, ← hh, upd_self]
        rfl
      · rw [eB, eb, hw]; simp
    · have hne : ¬ ((x : Int) = u) := by omega
      have eb : tryB h l i u = false := by unfold tryB; rw [hh]; simp [hxu]
      by_cases hm : u ∈ l i
      · refine way (try_h2 _ _ _ _ _) (tPre_mk F hi hu ⟨by rw [hb1]; rfl, ⟨hisb, trivial⟩, by rw [hb1]; rfl, ⟨hist, trivial⟩, by rw [hw]; simp [hne], ?_, tEnd_mk rfl ?_ ?_⟩)
        · rw [so_at, placeOf_at F hi hm]; exact decide_eq_false (by omega)
        · rw [eM]
          unfold tryH tryL
          rw [eb, if_pos hm]
          rfl
        · rw [eB, eb, hw]; simp [hne]
      · obtain ⟨q1, q2, q3⟩ := hjoin hm
        refine way (try_h1 _ _ _ _ _) (tPre_mk F hi hu ⟨by rw [hb1]; rfl, ⟨hisb, trivial⟩, by rw [hb1]; rfl, ⟨hist, trivial⟩, by rw [hw]; simp [hne], ?_, q1, q2, q3, tEnd_mk (by rw [so_at]; exact j2_mk F hi hu hm) ?_ ?_⟩)
        · rw [so_at, placeOf_not F hi hm]; rfl
        · rw [eM]
          unfold tryH tryL
          rw [eb, if_neg hm]
          rfl
        · rw [eB, eb, hw]; simp [hne]
  | none =>
    rw [hh] at hbool
    have hb1 : boolAt (mk h l) (so (i : Int) + 0) = false := by rw [so_at]; exact hbool
    have hc1 : intAt (mk h l) (so (i : Int) + 2) = ((l i).length : Nat) := by rw [so_at]; exact hcount
    have hset : tryB h l i u = true → tryM (mk h l) i u = mk (upd h i (some u)) (upd l i ((l i).erase u)) := fun eb => by
      rw [eM]
      unfold tryH tryL
      rw [eb]
      rfl
    by_cases hl : l i = []
    · have eb : tryB h l i u = true := by unfold tryB; rw [hh, hl]; simp
      exact way (try_f1 _ _ _ _ _) (tPre_mk F hi hu ⟨by rw [hb1]; rfl, ⟨hisc, trivial⟩, by rw [hc1, hl]; rfl, k1, k2, k3, tEnd_mk (by rw [so_at]; exact w2_mk F hi hu) (hset eb) (by rw [eB, eb])⟩)
    · have hl0 : 0 < (l i).length := List.length_pos_iff.2 hl
      have hc2 : (decide (intAt (mk h l) (so (i : Int) + 2) > 0) == true) = true := by
        rw [hc1, decide_eq_true (by omega)]; rfl
      by_cases hm : u ∈ l i
      · have hp : placeOf (mk h l) (so (i : Int)) u = ((l i).idxOf u : Nat) := by rw [so_at]; exact placeOf_at F hi hm
        cases hcs : l i with
        | nil => exact absurd hcs hl
        | cons y r =>
          by_cases hy : y = u
          · have eb : tryB h l i u = true := by unfold tryB; rw [hh, hcs, hy]; simp
            have hp : placeOf (mk h l) (so (i : Int)) u = 0 := by rw [hp, hcs, hy]; simp
            exact way (try_f2 _ _ _ _ _) (tPre_mk F hi hu ⟨by rw [hb1]; rfl, ⟨hisc, trivial⟩, hc2, by rw [hp]; rfl, k1, k2, k3, tEnd_mk (by rw [so_at]; exact w2_mk F hi hu) (hset eb) (by rw [eB, eb])⟩)
          · have eb : tryB h l i u = false := by unfold tryB; rw [hh, hcs]; simp [hy]
            have hp2 : (l i).idxOf u ≠ 0 := by rw [hcs, List.idxOf_cons, beq_eq_false_iff_ne.2 hy, cond_false]; omega
            refine way (try_f4 _ _ _ _ _) (tPre_mk F hi hu ⟨by rw [hb1]; rfl, ⟨hisc, trivial⟩, hc2, ?_, ⟨hisb, trivial⟩, by rw [hb1]; rfl, ?_, tEnd_mk rfl ?_ (by rw [eB, eb])⟩)
            · rw [hp, bne_iff_ne]; omega
            · rw [hp]; exact decide_eq_false (by omega)
            · rw [eM]
              unfold tryH tryL
              rw [eb, if_pos hm]
              rfl
      · have hp : placeOf (mk h l) (so (i : Int)) u = -1 := by rw [so_at]; exact placeOf_not F hi hm
        have eb : tryB h l i u = false := by
          unfold tryB
          rw [hh]
          simp only [reduceCtorEq, decide_false, decide_true, Bool.true_and, Bool.false_or, Bool.or_eq_false_iff, decide_eq_false_iff_not]
          refine ⟨hl, fun e => hm (List.mem_of_mem_head? e)⟩
        obtain ⟨q1, q2, q3⟩ := hjoin hm
        refine way (try_f3 _ _ _ _ _) (tPre_mk F hi hu ⟨by rw [hb1]; rfl, ⟨hisc, trivial⟩, hc2, by rw [hp]; rfl, ⟨hisb, trivial⟩, by rw [hb1]; rfl, by rw [hp]; rfl, q1, q2, q3, tEnd_mk (by rw [so_at]; exact j2_mk F hi hu hm) ?_ (by rw [eB, eb])⟩)
        rw [eM]
        unfold tryH tryL
        rw [eb, if_neg hm]
        rfl
end
end Go.Proofs.Ytdbhbpkdefbibaa
