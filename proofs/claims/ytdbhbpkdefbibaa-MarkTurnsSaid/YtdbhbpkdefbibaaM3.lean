/- Of mark: a task leaves a row of those who wait. No condition. -/
import Derived.Test.YtdbhbpkdefbibaaM2
namespace Go.Proofs.Ytdbhbpkdefbibaa

/-! What place tells of marks. -/
section
variable {h : Nat → Option Nat} {l : Nat → List Nat}
theorem isInt_of {k : IntKind} {cs : Array Value} {i : Nat} {n : Int} (e : cs[i]? = some (.int k n)) : IsInt k cs i := by
  unfold IsInt intAt; rw [e]
theorem intAt_of {k : IntKind} {cs : Array Value} {i : Nat} {n : Int} (e : cs[i]? = some (.int k n)) : intAt cs i = n := by
  unfold intAt; rw [e]
theorem Fine.getD (F : Fine h l) (i c : Nat) : (l i).getD c 0 < 8 := by
  rw [List.getD_eq_getElem?_getD]
  cases e : (l i)[c]? with
  | none => exact Nat.zero_lt_succ _
  | some x => exact F.task i x (List.mem_of_getElem? e)
theorem places_mk (F : Fine h l) {i : Nat} (hi : i < 32) : Places (mk h l) (i * 11) := by
  refine ⟨isInt_of (int_count hi), ?_, ?_, fun j hj => ⟨isInt_of (int_place hi hj), ?_, ?_⟩⟩
  · rw [intAt_of (int_count hi)]; omega
  · rw [intAt_of (int_count hi)]; have := F.len i; omega
  · rw [intAt_of (int_place hi hj)]; omega
  · rw [intAt_of (int_place hi hj)]; have := F.getD i j; omega
theorem placeOf_not (F : Fine h l) {i t : Nat} (hi : i < 32) (ht : t ∉ l i) : placeOf (mk h l) (i * 11) t = -1 := by
  unfold placeOf
  have : (List.range (intAt (mk h l) (i * 11 + 2)).toNat).find? (fun j => intAt (mk h l) (i * 11 + 3 + j) == (t : Int)) = none := by
    rw [List.find?_eq_none]
    intro j hj
    have hj := List.mem_range.1 hj
    rw [intAt_of (int_count hi)] at hj
    have hl := F.len i
    have hj : j < (l i).length := by omega
    rw [intAt_of (int_place hi (by omega))]
    intro e
    have e : ((l i).getD j 0 : Int) = t := by simpa using e
    have e : (l i).getD j 0 = t := by omega
    apply ht
    rw [← e, List.getD_eq_getElem?_getD, List.getElem?_eq_getElem hj]
    exact List.getElem_mem hj
  rw [this]
theorem idx_lt {l : List Nat} {t : Nat} (ht : t ∈ l) : l.idxOf t < l.length := List.idxOf_lt_length_iff.2 ht
theorem placeOf_at (F : Fine h l) {i t : Nat} (hi : i < 32) (ht : t ∈ l i) : placeOf (mk h l) (i * 11) t = ((l i).idxOf t : Nat) := by
  unfold placeOf
  have hl := F.len i
  have hx := idx_lt ht
  have : (List.range (intAt (mk h l) (i * 11 + 2)).toNat).find? (fun j => intAt (mk h l) (i * 11 + 3 + j) == (t : Int)) = some ((l i).idxOf t) := by
    rw [List.find?_range_eq_some]
    refine ⟨?_, ?_, fun j hj => ?_⟩
    · rw [intAt_of (int_place hi (by omega)), List.getD_eq_getElem?_getD, List.getElem?_eq_getElem hx, List.getElem_idxOf hx]
      simp
    · rw [intAt_of (int_count hi)]
      simpa using hx
    · rw [intAt_of (int_place hi (by omega)), List.getD_eq_getElem?_getD, List.getElem?_eq_getElem (by omega)]
      have := List.not_of_lt_findIdx (p := fun x => x == t) hj
      have : ¬ (l i)[j] = t := by simpa using this
      have : ((((l i)[j] : Nat) : Int) == (t : Int)) = false := by
        rw [beq_eq_false_iff_ne]; omega
      rw [Option.getD_some, this]
      rfl
  rw [this]
end

/-! The row, moved up. -/
def lvS (off p : Nat) : Nat := if 8 = p then off + 3 else off + 3 + p * 1
def lvX (cs : Array Value) (off : Nat) (a : Int) (n : Nat) : Array Value :=
  cs.extract (lvS off (IntKind.i64.wrap (a + 1)).toNat) (lvS off (IntKind.i64.wrap (a + 1)).toNat + (n - (IntKind.i64.wrap (a + 1)).toNat).min (8 - a.toNat) * 1)
def lv1 (cs : Array Value) (off : Nat) (a : Int) (n : Nat) : Array Value := putAt cs (lvS off a.toNat) (lvX cs off a n).toList
def lv2 (cs : Array Value) (off : Nat) (a : Int) (n : Nat) : Array Value := (lv1 cs off a n).setIfInBounds (off + 2) (.int .u8 (IntKind.u8.wrap (intAt (lv1 cs off a n) (off + 2) - 1)))
def lv3 (cs : Array Value) (off : Nat) (a : Int) (n : Nat) : Array Value := (lv2 cs off a n).setIfInBounds (off + 3 + (intAt (lv2 cs off a n) (off + 2)).toNat * 1) (.int .u8 0)
theorem putAt_get {cs : Array Value} {i : Nat} {l : List Value} (h : i + l.length ≤ cs.size) (k : Nat) : (putAt cs i l)[k]? = if i ≤ k ∧ k < i + l.length then l[k - i]? else cs[k]? := by
  unfold putAt
  rw [List.getElem?_toArray, List.getElem?_append, List.length_append, List.length_take, List.getElem?_append, List.length_take, List.getElem?_drop, Array.length_toList]
  have e : min i cs.size = i := by omega
  rw [e]
  by_cases h1 : k < i
  · rw [if_pos (by omega), if_pos h1, if_neg (by omega), List.getElem?_take, if_pos h1, Array.getElem?_toList]
  · by_cases h2 : k < i + l.length
    · rw [if_pos h2, if_neg h1, if_pos ⟨by omega, h2⟩]
    · rw [if_neg h2, if_neg (by omega), Array.getElem?_toList]
      congr 1
      omega
section
variable {h : Nat → Option Nat} {l : Nat → List Nat}
theorem wrap_succ {a n : Nat} (h : a < n) (hn : n ≤ 8) : (IntKind.i64.wrap ((a : Int) + 1)).toNat = a + 1 := by
  rw [wrap64_of (by omega) (by omega)]; omega
theorem lvX_size {i a n : Nat} (hi : i < 32) (ha : a < n) (hn : n ≤ 8) : (lvX (mk h l) (i * 11) a n).size = n - (a + 1) := by
  unfold lvX
  rw [wrap_succ ha hn, Array.size_extract, mk_size]
  unfold lvS
  have : (n - (a + 1)).min (8 - (a : Int).toNat) = n - (a + 1) := Nat.min_eq_left (by omega)
  rw [this]
  split <;> omega
theorem lv1_get {i a n : Nat} (hi : i < 32) (ha : a < n) (hn : n ≤ 8) (k : Nat) :
    (lv1 (mk h l) (i * 11) a n)[k]? = if i * 11 + 3 + a ≤ k ∧ k + 1 < i * 11 + 3 + n then (mk h l)[k + 1]? else (mk h l)[k]? := by
  have hs := lvX_size (h := h) (l := l) hi ha hn
  have e : lvS (i * 11) (a : Int).toNat = i * 11 + 3 + a := by
    unfold lvS
    rw [if_neg (by omega)]
    omega
  unfold lv1
  rw [e, putAt_get (by rw [Array.length_toList, hs, mk_size]; omega), Array.length_toList, hs]
  by_cases hc : i * 11 + 3 + a ≤ k ∧ k + 1 < i * 11 + 3 + n
  · rw [if_pos (by omega), if_pos hc, Array.getElem?_toList]
    have hl : (n - (a + 1)).min (8 - (a : Int).toNat) = n - (a + 1) := Nat.min_eq_left (by omega)
    unfold lvX
    rw [wrap_succ ha hn, hl, Array.getElem?_extract, mk_size]
    unfold lvS
    simp only [if_neg (show ¬ 8 = a + 1 by omega)]
    rw [if_pos (by omega)]
    congr 1
    omega
  · rw [if_neg (by omega), if_neg hc]
theorem lv1_size {i a n : Nat} (hi : i < 32) (ha : a < n) (hn : n ≤ 8) : (lv1 (mk h l) (i * 11) a n).size = 352 := by
  have h1 := lv1_get (h := h) (l := l) hi ha hn 352
  have h2 := lv1_get (h := h) (l := l) hi ha hn 351
  rw [if_neg (by omega), mk_get, if_neg (by omega)] at h1
  have h1 := Array.getElem?_eq_none_iff.1 h1
  have h3 : (lv1 (mk h l) (i * 11) a n)[351]? ≠ none := by
    rw [h2]
    split
    · omega
    · rw [mk_get, if_pos (by omega)]; simp
  have := mt Array.getElem?_eq_none_iff.2 h3
  omega
theorem lv1_count {i a n : Nat} (hi : i < 32) (ha : a < n) (hn : n ≤ 8) : (lv1 (mk h l) (i * 11) a n)[i * 11 + 2]? = some (.int .u8 ((l i).length : Nat)) := by
  rw [lv1_get hi ha hn, if_neg (by omega), int_count hi]
theorem lv2_count {i a : Nat} (hi : i < 32) (ha : a < (l i).length) (hn : (l i).length ≤ 8) : (lv2 (mk h l) (i * 11) a (l i).length)[i * 11 + 2]? = some (.int .u8 ((l i).length - 1 : Nat)) := by
  unfold lv2
  rw [Array.getElem?_setIfInBounds, if_pos rfl, if_pos (by rw [lv1_size hi ha hn]; omega), intAt_of (lv1_count hi ha hn), IntWalk.u8_in _ (by omega)]
  congr 2
  omega
theorem lv3_mk (F : Fine h l) {i t : Nat} (hi : i < 32) (ht : t ∈ l i) : lv3 (mk h l) (i * 11) ((l i).idxOf t : Nat) (l i).length = mk h (upd l i ((l i).erase t)) := by
  have hn := F.len i
  have ha := idx_lt ht
  have hc := intAt_of (lv2_count (h := h) (l := l) hi ha hn)
  have hpl : i * 11 + 3 + (((l i).length - 1 : Nat) : Int).toNat * 1 = i * 11 + 3 + ((l i).length - 1) := by omega
  have hw : IntKind.u8.wrap (((l i).length : Nat) - 1 : Int) = ((l i).length - 1 : Nat) := by rw [IntWalk.u8_in _ (by omega)]; omega
  have her : (l i).erase t = (l i).eraseIdx ((l i).idxOf t) := List.erase_eq_eraseIdx_of_idxOf rfl
  have hlen : ((l i).erase t).length = (l i).length - 1 := List.length_erase_of_mem ht
  unfold lv3
  rw [hc, hpl]
  apply Array.ext_getElem?
  intro k
  rw [Array.getElem?_setIfInBounds]
  unfold lv2
  rw [Array.size_setIfInBounds, Array.getElem?_setIfInBounds, lv1_size hi ha hn, intAt_of (lv1_count hi ha hn), hw, lv1_get hi ha hn, mk_get, mk_get, mk_get]
  by_cases hk : k < 352
  · rw [if_pos hk, if_pos hk]
    obtain ⟨j, hj, e | e | e | ⟨c, hc, e⟩⟩ := place_cases k hk <;> subst e
    · rw [if_neg (by omega), if_neg (by omega), if_neg (by omega), mkc_has, mkc_has]
    · rw [if_neg (by omega), if_neg (by omega), if_neg (by omega), mkc_task, mkc_task]
    · by_cases e : j = i
      · subst e
        rw [if_neg (by omega), if_pos rfl, if_pos (by omega), mkc_count, upd_same, hlen]
      · rw [if_neg (by omega), if_neg (by omega), if_neg (by omega), mkc_count, mkc_count, upd_other _ _ e]
    · rw [mkc_place h (upd l i _) j hc]
      by_cases e : j = i
      · subst e
        rw [upd_same, her, List.getD_eq_getElem?_getD, List.getElem?_eraseIdx]
        by_cases e1 : c = (l j).length - 1
        · subst e1
          rw [if_pos rfl, if_pos (by omega)]
          have : (if (l j).length - 1 < (l j).idxOf t then (l j)[(l j).length - 1]? else (l j)[(l j).length - 1 + 1]?) = none := by
            rw [if_neg (by omega)]
            exact List.getElem?_eq_none (by omega)
          rw [this]
          rfl
        · rw [if_neg (by omega), if_neg (by omega)]
          by_cases e2 : (l j).idxOf t ≤ c ∧ c + 1 < (l j).length
          · rw [if_pos (by omega), if_pos (by omega), if_neg (by omega), ← List.getD_eq_getElem?_getD]
            have := mkc_place h l j (c := c + 1) (by omega)
            rw [← this]
            rfl
          · rw [if_neg (by omega), mkc_place h l j (by omega)]
            by_cases e3 : c < (l j).idxOf t
            · rw [if_pos e3, ← List.getD_eq_getElem?_getD]
            · rw [if_neg e3, List.getElem?_eq_none (by omega), List.getD_eq_getElem?_getD, List.getElem?_eq_none (by omega)]
      · rw [upd_other _ _ e, if_neg (by omega), if_neg (by omega), if_neg (by omega), mkc_place h l j (by omega)]
  · rw [if_neg hk, if_neg hk, if_neg (by omega), if_neg (by omega), if_neg (by omega)]
end
end Go.Proofs.Ytdbhbpkdefbibaa
