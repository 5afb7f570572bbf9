/- Marks as plain words: who has a slot, who waits; their cells. No condition. -/
import Derived.Test.YtdbhbpkdefbibaaK12
namespace Go.Proofs.Ytdbhbpkdefbibaa

/-- A mark's cell: of a slot whether somebody has it, who, how many wait, and who. -/
def mkc (h : Nat → Option Nat) (l : Nat → List Nat) (k : Nat) : Value :=
  let i := k / 11
  match k % 11 with
  | 0 => .bool (h i).isSome
  | 1 => .int .u8 ((h i).getD 0 : Nat)
  | 2 => .int .u8 ((l i).length : Nat)
  | c + 3 => .int .u8 ((l i).getD c 0 : Nat)
def mk (h : Nat → Option Nat) (l : Nat → List Nat) : Array Value := Array.ofFn (n := 352) fun k => mkc h l k.val
theorem mk_size (h : Nat → Option Nat) (l : Nat → List Nat) : (mk h l).size = 352 := by simp [mk]
theorem mk_get (h : Nat → Option Nat) (l : Nat → List Nat) (k : Nat) : (mk h l)[k]? = if k < 352 then some (mkc h l k) else none := by
  unfold mk; rw [Array.getElem?_ofFn]; split <;> rfl
section
variable (h : Nat → Option Nat) (l : Nat → List Nat)
theorem mkc_has (i : Nat) : mkc h l (i * 11) = .bool (h i).isSome := by
  have e1 : i * 11 / 11 = i := by omega
  have e2 : i * 11 % 11 = 0 := by omega
  simp only [mkc, e1, e2]
theorem mkc_task (i : Nat) : mkc h l (i * 11 + 1) = .int .u8 ((h i).getD 0 : Nat) := by
  have e1 : (i * 11 + 1) / 11 = i := by omega
  have e2 : (i * 11 + 1) % 11 = 1 := by omega
  simp only [mkc, e1, e2]
theorem mkc_count (i : Nat) : mkc h l (i * 11 + 2) = .int .u8 ((l i).length : Nat) := by
  have e1 : (i * 11 + 2) / 11 = i := by omega
  have e2 : (i * 11 + 2) % 11 = 2 := by omega
  simp only [mkc, e1, e2]
theorem mkc_place (i : Nat) {c : Nat} (hc : c < 8) : mkc h l (i * 11 + 3 + c) = .int .u8 ((l i).getD c 0 : Nat) := by
  have e1 : (i * 11 + 3 + c) / 11 = i := by omega
  have e2 : (i * 11 + 3 + c) % 11 = c + 3 := by omega
  simp only [mkc, e1, e2]
end
/-- Each place is one of four. -/
theorem place_cases (k : Nat) (hk : k < 352) : ∃ i, i < 32 ∧ (k = i * 11 ∨ k = i * 11 + 1 ∨ k = i * 11 + 2 ∨ ∃ c, c < 8 ∧ k = i * 11 + 3 + c) := by
  refine ⟨k / 11, by omega, ?_⟩
  have : k % 11 < 11 := Nat.mod_lt _ (by omega)
  by_cases h0 : k % 11 = 0
  · exact .inl (by omega)
  · by_cases h1 : k % 11 = 1
    · exact .inr (.inl (by omega))
    · by_cases h2 : k % 11 = 2
      · exact .inr (.inr (.inl (by omega)))
      · exact .inr (.inr (.inr ⟨k % 11 - 3, by omega, by omega⟩))
theorem mk_ext {h h' : Nat → Option Nat} {l l' : Nat → List Nat} (H : ∀ i, i < 32 → h i = h' i) (L : ∀ i, i < 32 → l i = l' i) : mk h l = mk h' l' := by
  apply Array.ext_getElem?
  intro k
  rw [mk_get, mk_get]
  split
  · rename_i hk
    obtain ⟨i, hi, e | e | e | ⟨c, hc, e⟩⟩ := place_cases k hk <;> subst e
    · rw [mkc_has, mkc_has, H i hi]
    · rw [mkc_task, mkc_task, H i hi]
    · rw [mkc_count, mkc_count, L i hi]
    · rw [mkc_place h l i hc, mkc_place h' l' i hc, L i hi]
  · rfl

/-- What the cells say. -/
def hOf (cs : Array Value) (i : Nat) : Option Nat := if boolAt cs (i * 11) then some (intAt cs (i * 11 + 1)).toNat else none
def lOf (cs : Array Value) (i : Nat) : List Nat := (List.range (intAt cs (i * 11 + 2)).toNat).map fun j => (intAt cs (i * 11 + 3 + j)).toNat
/-- Marks that may be. -/
structure Fine (h : Nat → Option Nat) (l : Nat → List Nat) : Prop where
  has : ∀ i t, h i = some t → t < 8
  task : ∀ i t, t ∈ l i → t < 8
  once : ∀ i, (l i).Nodup
  apart : ∀ i t, h i = some t → t ∉ l i
  out : ∀ i, 32 ≤ i → h i = none ∧ l i = []
theorem nodup_len {l : List Nat} (h : ∀ t ∈ l, t < 8) (hn : l.Nodup) : l.length ≤ 8 := by
  have := List.Nodup.length_le_of_subset hn (l₂ := List.range 8) (fun t ht => List.mem_range.2 (h t ht))
  simpa using this
theorem Fine.len {h : Nat → Option Nat} {l : Nat → List Nat} (F : Fine h l) (i : Nat) : (l i).length ≤ 8 := nodup_len (F.task i) (F.once i)
theorem Fine.room {h : Nat → Option Nat} {l : Nat → List Nat} (F : Fine h l) {i t : Nat} (ht : t < 8) (hn : t ∉ l i) : (l i).length < 8 := by
  have := nodup_len (l := t :: l i) (fun x hx => by rcases List.mem_cons.1 hx with rfl | hx; exact ht; exact F.task i x hx) (List.nodup_cons.2 ⟨hn, F.once i⟩)
  simp at this
  omega
section
variable {h : Nat → Option Nat} {l : Nat → List Nat}
theorem bool_has {i : Nat} (hi : i < 32) : (mk h l)[i * 11]? = some (.bool (h i).isSome) := by rw [mk_get, if_pos (by omega), mkc_has]
theorem int_task {i : Nat} (hi : i < 32) : (mk h l)[i * 11 + 1]? = some (.int .u8 ((h i).getD 0 : Nat)) := by rw [mk_get, if_pos (by omega), mkc_task]
theorem int_count {i : Nat} (hi : i < 32) : (mk h l)[i * 11 + 2]? = some (.int .u8 ((l i).length : Nat)) := by rw [mk_get, if_pos (by omega), mkc_count]
theorem int_place {i c : Nat} (hi : i < 32) (hc : c < 8) : (mk h l)[i * 11 + 3 + c]? = some (.int .u8 ((l i).getD c 0 : Nat)) := by rw [mk_get, if_pos (by omega), mkc_place h l i hc]
theorem hOf_mk {i : Nat} (hi : i < 32) : hOf (mk h l) i = h i := by
  simp only [hOf, boolAt, intAt, bool_has hi, int_task hi]
  cases h i <;> simp
theorem lOf_mk (F : Fine h l) {i : Nat} (hi : i < 32) : lOf (mk h l) i = l i := by
  have hl := F.len i
  have e : (intAt (mk h l) (i * 11 + 2)).toNat = (l i).length := by simp [intAt, int_count hi]
  unfold lOf
  rw [e]
  apply List.ext_getElem?
  intro j
  rw [List.getElem?_map]
  by_cases hj : j < (l i).length
  · rw [List.getElem?_range hj]
    simp only [Option.map_some, intAt, int_place hi (show j < 8 by omega)]
    simp [List.getD, List.getElem?_eq_getElem hj]
  · rw [List.getElem?_eq_none (by simp; omega), List.getElem?_eq_none (by omega)]
    rfl
theorem hOf_eq (F : Fine h l) : hOf (mk h l) = h := by
  funext i
  by_cases hi : i < 32
  · exact hOf_mk hi
  · have e : (mk h l)[i * 11]? = none := by rw [mk_get, if_neg (by omega)]
    rw [(F.out i (by omega)).1]
    simp [hOf, boolAt, e]
theorem lOf_eq (F : Fine h l) : lOf (mk h l) = l := by
  funext i
  by_cases hi : i < 32
  · exact lOf_mk F hi
  · have e : (mk h l)[i * 11 + 2]? = none := by rw [mk_get, if_neg (by omega)]
    rw [(F.out i (by omega)).2]
    simp [lOf, intAt, e]
/-- Which cells are marks. -/
def IsM (cs : Array Value) : Prop := ∃ h l, Fine h l ∧ cs = mk h l
end

/-! Places in turn. -/
def upd {α : Type} (f : Nat → α) (i : Nat) (v : α) : Nat → α := fun j => if j = i then v else f j
theorem upd_same {α : Type} (f : Nat → α) (i : Nat) (v : α) : upd f i v i = v := if_pos rfl
theorem upd_other {α : Type} (f : Nat → α) {i j : Nat} (v : α) (h : j ≠ i) : upd f i v j = f j := if_neg h
theorem upd_self {α : Type} (f : Nat → α) (i : Nat) : upd f i (f i) = f := by
  funext j
  unfold upd
  split
  · rename_i e; rw [e]
  · rfl

/-- What Try does. -/
def tryB (h : Nat → Option Nat) (l : Nat → List Nat) (i t : Nat) : Bool := decide (h i = some t) || (decide (h i = none) && (decide (l i = []) || decide ((l i).head? = some t)))
def tryH (h : Nat → Option Nat) (l : Nat → List Nat) (i t : Nat) : Nat → Option Nat := if tryB h l i t then upd h i (some t) else h
def tryL (h : Nat → Option Nat) (l : Nat → List Nat) (i t : Nat) : Nat → List Nat :=
  if tryB h l i t then upd l i ((l i).erase t) else if t ∈ l i then l else upd l i (l i ++ [t])
theorem Fine.try {h : Nat → Option Nat} {l : Nat → List Nat} (F : Fine h l) {i t : Nat} (hi : i < 32) (ht : t < 8) : Fine (tryH h l i t) (tryL h l i t) := by
  unfold tryH tryL
  by_cases hb : tryB h l i t = true
  · rw [if_pos hb, if_pos hb]
    refine ⟨fun j x hx => ?_, fun j x hx => ?_, fun j => ?_, fun j x hx hm => ?_, fun j hj => ?_⟩ <;> by_cases e : j = i
    · subst e; rw [upd_same] at hx; cases hx; exact ht
    · rw [upd_other _ _ e] at hx; exact F.has j x hx
    · subst e; rw [upd_same] at hx; exact F.task _ x (List.mem_of_mem_erase hx)
    · rw [upd_other _ _ e] at hx; exact F.task j x hx
    · subst e; rw [upd_same]; exact (F.once _).erase _
    · rw [upd_other _ _ e]; exact F.once j
    · subst e; rw [upd_same] at hx hm; cases hx; exact (F.once _).not_mem_erase hm
    · rw [upd_other _ _ e] at hx hm; exact F.apart j x hx hm
    · omega
    · rw [upd_other _ _ e, upd_other _ _ e]; exact F.out j hj
  · rw [if_neg hb, if_neg hb]
    split
    · exact F
    · rename_i hn
      refine ⟨fun j x hx => F.has j x hx, fun j x hx => ?_, fun j => ?_, fun j x hx hm => ?_, fun j hj => ?_⟩ <;> by_cases e : j = i
      · subst e; rw [upd_same] at hx
        rcases List.mem_append.1 hx with hx | hx
        · exact F.task _ x hx
        · rw [List.mem_singleton.1 hx]; exact ht
      · rw [upd_other _ _ e] at hx; exact F.task j x hx
      · subst e; rw [upd_same]
        refine List.nodup_append.2 ⟨F.once _, by simp, fun a ha b hb => ?_⟩
        rw [List.mem_singleton.1 hb]
        rintro rfl
        exact hn ha
      · rw [upd_other _ _ e]; exact F.once j
      · subst e; rw [upd_same] at hm
        rcases List.mem_append.1 hm with hm | hm
        · exact F.apart _ x hx hm
        · rw [List.mem_singleton.1 hm] at hx
          exact hb (by simp [tryB, hx])
      · rw [upd_other _ _ e] at hm; exact F.apart j x hx hm
      · omega
      · rw [upd_other _ _ e]; exact F.out j hj
/-- What Free does. -/
def freeH (h : Nat → Option Nat) (i t : Nat) : Nat → Option Nat := if h i = some t then upd h i none else h
theorem Fine.free {h : Nat → Option Nat} {l : Nat → List Nat} (F : Fine h l) (i t : Nat) : Fine (freeH h i t) l := by
  unfold freeH
  split
  · refine ⟨fun j x hx => ?_, F.task, F.once, fun j x hx hm => ?_, fun j hj => ?_⟩ <;> by_cases e : j = i
    · subst e; rw [upd_same] at hx; cases hx
    · rw [upd_other _ _ e] at hx; exact F.has j x hx
    · subst e; rw [upd_same] at hx; cases hx
    · rw [upd_other _ _ e] at hx; exact F.apart j x hx hm
    · subst e; rw [upd_same]; exact ⟨rfl, (F.out _ hj).2⟩
    · rw [upd_other _ _ e]; exact F.out j hj
  · exact F
/-- What Gone does, to the first slots. -/
def goneH (h : Nat → Option Nat) (t n : Nat) : Nat → Option Nat := fun j => if j < n ∧ h j = some t then none else h j
def goneL (l : Nat → List Nat) (t n : Nat) : Nat → List Nat := fun j => if j < n then (l j).erase t else l j
theorem Fine.gone {h : Nat → Option Nat} {l : Nat → List Nat} (F : Fine h l) (t n : Nat) : Fine (goneH h t n) (goneL l t n) := by
  refine ⟨fun j x hx => ?_, fun j x hx => ?_, fun j => ?_, fun j x hx hm => ?_, fun j hj => ?_⟩
  · unfold goneH at hx
    split at hx
    · cases hx
    · exact F.has j x hx
  · unfold goneL at hx
    split at hx
    · exact F.task j x (List.mem_of_mem_erase hx)
    · exact F.task j x hx
  · unfold goneL
    split
    · exact (F.once j).erase _
    · exact F.once j
  · have hm' : x ∈ l j := by
      unfold goneL at hm
      split at hm
      · exact List.mem_of_mem_erase hm
      · exact hm
    unfold goneH at hx
    split at hx
    · cases hx
    · exact F.apart j x hx hm'
  · obtain ⟨h1, h2⟩ := F.out j hj
    unfold goneH goneL
    rw [h1, h2]
    simp

/-! Cells that are written. -/
section
variable {h : Nat → Option Nat} {l : Nat → List Nat}
theorem set_has {i : Nat} (hi : i < 32) (t : Option Nat) : ((mk h l).setIfInBounds (i * 11) (.bool t.isSome)).setIfInBounds (i * 11 + 1) (.int .u8 (t.getD 0 : Nat)) = mk (upd h i t) l := by
  apply Array.ext_getElem?
  intro k
  rw [Array.getElem?_setIfInBounds, Array.getElem?_setIfInBounds, mk_get, mk_get, Array.size_setIfInBounds, mk_size]
  by_cases hk : k < 352
  · rw [if_pos hk, if_pos hk]
    obtain ⟨j, hj, e | e | e | ⟨c, hc, e⟩⟩ := place_cases k hk <;> subst e
    · rw [if_neg (by omega)]
      by_cases e : j = i
      · subst e
        rw [if_pos rfl, if_pos (by omega), mkc_has, upd_same]
      · rw [if_neg (by omega), mkc_has, mkc_has, upd_other _ _ e]
    · by_cases e : j = i
      · subst e
        rw [if_pos rfl, if_pos (by omega), mkc_task, upd_same]
      · rw [if_neg (by omega), if_neg (by omega), mkc_task, mkc_task, upd_other _ _ e]
    · rw [if_neg (by omega), if_neg (by omega), mkc_count, mkc_count]
    · rw [if_neg (by omega), if_neg (by omega), mkc_place h l j hc, mkc_place _ l j hc]
  · rw [if_neg hk, if_neg hk, if_neg (by omega), if_neg (by omega)]
theorem set_join {i t : Nat} (hi : i < 32) (hl : (l i).length < 8) :
    ((mk h l).setIfInBounds (i * 11 + 3 + (l i).length) (.int .u8 (t : Nat))).setIfInBounds (i * 11 + 2) (.int .u8 ((l i).length + 1 : Nat)) = mk h (upd l i (l i ++ [t])) := by
  apply Array.ext_getElem?
  intro k
  rw [Array.getElem?_setIfInBounds, Array.getElem?_setIfInBounds, mk_get, mk_get, Array.size_setIfInBounds, mk_size]
  by_cases hk : k < 352
  · rw [if_pos hk, if_pos hk]
    obtain ⟨j, hj, e | e | e | ⟨c, hc, e⟩⟩ := place_cases k hk <;> subst e
    · rw [if_neg (by omega), if_neg (by omega), mkc_has, mkc_has]
    · rw [if_neg (by omega), if_neg (by omega), mkc_task, mkc_task]
    · by_cases e : j = i
      · subst e
        rw [if_pos rfl, if_pos (by omega), mkc_count, upd_same, List.length_append]
        rfl
      · rw [if_neg (by omega), if_neg (by omega), mkc_count, mkc_count, upd_other _ _ e]
    · rw [if_neg (by omega), mkc_place _ l j hc, mkc_place _ _ j hc]
      by_cases e : j = i
      · subst e
        rw [upd_same]
        by_cases ec : c = (l j).length
        · subst ec
          rw [if_pos rfl, if_pos (by omega)]
          simp [List.getD]
        · rw [if_neg (by omega)]
          simp only [List.getD, List.getElem?_append]
          split
          · rfl
          · rw [List.getElem?_eq_none (show (l j).length ≤ c by omega), List.getElem?_eq_none (by simp; omega)]
      · rw [if_neg (by omega), upd_other _ _ e]
  · rw [if_neg hk, if_neg hk, if_neg (by omega), if_neg (by omega)]
end
end Go.Proofs.Ytdbhbpkdefbibaa
