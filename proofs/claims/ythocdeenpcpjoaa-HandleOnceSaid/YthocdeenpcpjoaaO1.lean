/- Of bailiwicklaw03 (handle): maps from handles to truths that the call makes: look-up, store, delete, length; and what Issue, Void do to the set of good handles. Conditions: generations at most the last one. -/
import Derived.Test.YthocdeenpcpjoaaT13
import Derived.Maps.OwnSet
import Derived.Maps.Views
import Derived.Maps.RangeWalk
namespace Go.Proofs.Ythocdeenpcpjoaa
open Go.RowKit

/-- A set of handles, kept in a map from handles to truths: block b, at most n entries. -/
def Mp (w : World) (b n : Nat) (M : Nat → Bool) (sz : Nat) : Prop :=
  ∃ D : DataW Unit, w.ownsMap Try.prog 41 (plainElem Try.prog 4) b n D ∧ Maps.Tidy D ∧ (∀ h : Nat, h < 4294967296 → D.atKey (.int .u32 (h : Int)) (.lit (.bool false)) = .lit (.bool (M h))) ∧ (∀ h : Nat, h < 4294967296 → Maps.has D (.int .u32 (h : Int)) = M h) ∧ Maps.size D = sz

theorem plainElem_bool_inv {P : Program} {e : TypeId} (he : P.underlying e = some .bool) {v : Value} {z : DataW Unit × List MemPlace} (h : plainElem P e v = some z) : ∃ x, v = .bool x ∧ z = (.lit (.bool x), []) := by
  unfold plainElem at h
  rw [he] at h
  cases v <;> simp at h
  exact ⟨_, rfl, h.symm⟩
theorem wf32 {h : Nat} (hh : h < 4294967296) : (Lit.int .u32 (h : Int)).wf = true := by simp [Lit.wf, IntKind.min, IntKind.max, IntKind.signed, IntKind.bits]; omega
theorem isKey32 {h : Nat} : WideAt.IsKeyLit (Lit.int .u32 (h : Int)) := trivial
theorem keyed41 : Maps.Keyed Try.prog 41 := Maps.int_keyed Try.underlying41
theorem zero4 (w : World) : (zeroValue 4).run Try.prog w = .ok (.bool false) w := by kernel_rfl
theorem key41 {h : Nat} (hh : h < 4294967296) : keyOf Try.prog 41 (.int .u32 h) = some (.int .u32 h) := Maps.keyOf_int_mk Try.underlying41 (wf32 hh)

section
variable {w w' : World} {b n : Nat} {M : Nat → Bool} {sz : Nat}
theorem Mp.made (w : World) : Mp (w.alloc (.map #[] 0)) w.heap.size 0 (fun _ => false) 0 :=
  ⟨.map [], World.ownsMap_made _ _ _ _, Maps.tidy_empty, fun _ _ => rfl, fun _ _ => rfl, rfl⟩
theorem Mp.lt (h : Mp w b n M sz) : b < w.heap.size := by
  obtain ⟨D, ⟨es, c, hb, _⟩, _⟩ := h
  exact (Array.getElem?_eq_some_iff.1 hb).1
theorem Mp.kept {row : Option Nat} (h : Mp w b n M sz) (hg : w.grownBy w' row) (hne : some b ≠ row) : Mp w' b n M sz := by
  obtain ⟨D, h1, h2⟩ := h
  exact ⟨D, h1.kept hg hne, h2⟩
theorem grown_of_below (h : Below w.heap.size w w') (row : Option Nat) : w.grownBy w' row := ⟨h.os, h.tape, h.output, h.size, fun i hi _ => h.block i hi⟩
theorem Mp.below (h : Mp w b n M sz) (hb : Below w.heap.size w w') : Mp w' b n M sz := h.kept (grown_of_below hb none) (by simp)
theorem Mp.alloc (h : Mp w b n M sz) (o : Obj) : Mp (w.alloc o) b n M sz := by
  obtain ⟨D, h1, h2⟩ := h
  exact ⟨D, h1.alloc o, h2⟩
theorem Mp.drew (h : Mp w b n M sz) : Mp w.drew b n M sz := h
theorem Mp.more {m : Nat} (h : Mp w b n M sz) (hm : n ≤ m) : Mp w b m M sz := by
  obtain ⟨D, ⟨es, c, h1, h2, h3, h4⟩, h5⟩ := h
  exact ⟨D, ⟨es, c, h1, h2, Nat.le_trans h3 hm, h4⟩, h5⟩
theorem Mp.row (h : Mp w b n M sz) {g : Nat} {t : TypeId} {cs : Array Value} (hg : Blk w g t cs) (x : Array Value) : Mp (w.setRow g x) b n M sz := by
  have hne : b ≠ g := by
    obtain ⟨D, ⟨es, c, hb, _⟩, _⟩ := h
    rintro rfl
    unfold Blk at hg
    rw [hb] at hg
    cases hg
  exact h.kept (w' := w.setRow g x) (row := some g) ⟨rfl, rfl, rfl, by simp, fun i _ hi => setRow_other w g i x (fun e => hi (by rw [e]))⟩ (by simpa using hne)
theorem Mp.look (h : Mp w b n M sz) {x : Nat} (hx : x < 4294967296) : (Instr.lookup 53 (.map (some b)) (.int .u32 x) false).run Try.prog w = .ok (.bool (M x)) w := by
  obtain ⟨D, h1, _, h3, _⟩ := h
  obtain ⟨v, ps, hrun, hv⟩ := h1.lookup keyed41 Try.underlying53 (zero4 w) (plainElem_bool Try.underlying4 false) (key41 hx)
  obtain ⟨c, rfl, hc⟩ := plainElem_bool_inv Try.underlying4 hv
  rw [h3 x hx] at hc
  simp only [Prod.mk.injEq, DataW.lit.injEq, Lit.bool.injEq] at hc
  rw [hrun, hc.1]
end

section
variable {w : World} {ops : Array Oper} {rest : List Oper} {o : Oper} {a : Act} {Q : Exit → Act → World → Prop}
/-- 'm[h]'. -/
theorem wpList_look (hw : Region.wanted o (yielded ops a.tmps) = true) (m x : Operand) (hop : o.op = Op.lookup 53 m x false) (b n : Nat) (M : Nat → Bool) (sz h : Nat) (hh : h < 4294967296)
    (hm : a.eval m = .map (some b)) (hx : a.eval x = .int .u32 h) (hown : Mp w b n M sz) (hK : wpList Try.prog ops Q rest (a.put o.dst (.bool (M h))) w) : wpList Try.prog ops Q (o :: rest) a w := by
  refine wpList_step fun K' hK' => ?_
  rw [if_pos hw]
  unfold Oper.wp
  simp [execOp, hop, hm, hx, hown.look hh, Result.andThen]
  exact hK' _ _ hK
/-- The look-up in a region that draws its order. -/
theorem yieldsIf_look {S : World → Prop} {v : Bool} (hw : Region.wanted o (yielded ops a.tmps) = true) (m x : Operand) (hop : o.op = Op.lookup 53 m x false) (b n : Nat) (M : Nat → Bool) (sz h : Nat) (hh : h < 4294967296)
    (hm : a.eval m = .map (some b)) (hx : a.eval x = .int .u32 h) (hS : ∀ w, S w → Mp w b n M sz) (hv : M h = v) : YieldsIf Try.prog ops S o (.bool v) a :=
  .inl ⟨hw, fun w hw' => by
    unfold execOp
    simp [hop, hm, hx, (hS w hw').look hh, hv]⟩
theorem u32_wf {x : Int} (h : (Lit.int .u32 x).wf = true) : 0 ≤ x ∧ x < 4294967296 := by
  simp [Lit.wf, IntKind.min, IntKind.max, IntKind.signed, IntKind.bits] at h
  omega
theorem key41_inv {key : Value} {kl : Lit} (h : keyOf Try.prog 41 key = some kl) : ∃ x : Nat, key = (fun x : Nat => Value.int .u32 (x : Int)) x := by
  obtain ⟨x, rfl, _, hw⟩ := Maps.keyOf_int_inv Try.underlying41 h
  have := u32_wf hw
  exact ⟨x.toNat, by simp only [Value.int.injEq, true_and]; omega⟩
theorem key41_lt {x : Nat} {kl : Lit} (h : keyOf Try.prog 41 (.int .u32 (x : Int)) = some kl) : x < 4294967296 := by
  obtain ⟨y, e, _, hw⟩ := Maps.keyOf_int_inv Try.underlying41 h
  have := u32_wf hw
  cases e
  omega
/-- The step of a range over a set of handles. -/
theorem wpList_next41 (hg : o.guard = none) (it : Operand) (hop : o.op = Op.next it false) (b r n : Nat) (D : DataW Unit) (left : Lit → Bool) (cnt : Nat)
    (hit : a.eval it = .pointer (some ⟨r, 0, none⟩)) (h : w.ranges Try.prog 41 (plainElem Try.prog 4) b r n D left cnt)
    (hDone : cnt = 0 → wpList Try.prog ops Q rest (a.put o.dst (.tuple #[.bool false])) w)
    (hMore : ∀ (x : Nat) (cv : Value) (left' : Lit → Bool) (w' : World) (cnt' : Nat), x < 4294967296 → w'.ranges Try.prog 41 (plainElem Try.prog 4) b r n D left' cnt' → cnt' < cnt → w.grownBy w' (some r) →
      (Instr.entry (.pointer (some ⟨r, 0, none⟩))).run Try.prog w' = .ok (.tuple #[.int .u32 (x : Int), cv]) w' → wpList Try.prog ops Q rest (a.put o.dst (.tuple #[.bool true, .int .u32 (x : Int), cv])) w') :
    wpList Try.prog ops Q (o :: rest) a w :=
  wpList_next_ranges w hg it hop 41 keyed41 (plainElem Try.prog 4) (fun x : Nat => Value.int .u32 (x : Int)) Value.bool (fun _ _ h => key41_inv h) (fun _ _ h => by obtain ⟨c, rfl, _⟩ := plainElem_bool_inv Try.underlying4 h; exact ⟨c, rfl⟩)
    b r n D left cnt hit h (fun h0 _ => hDone h0) (fun x c _ _ w' cnt' hkey _ _ _ hrg hlt hgr _ hen => hMore x (Value.bool c) _ w' cnt' (key41_lt hkey) hrg hlt hgr hen)
/-- 'm[h] = true'. -/
theorem wpList_mark (hg : o.guard = none) (m x : Operand) (hop : o.op = Op.mapUpdate 53 m x (.const (.bool true))) (b n : Nat) (M : Nat → Bool) (sz h : Nat) (hh : h < 4294967296) (hn : n < 100000)
    (hm : a.eval m = .map (some b)) (hx : a.eval x = .int .u32 h) (hown : Mp w b n M sz)
    (hK : ∀ w', Mp w' b (n + 1) (fun y => y == h || M y) (if M h then sz else sz + 1) → w.grownBy w' (some b) → wpList Try.prog ops Q rest (a.put o.dst undef) w') : wpList Try.prog ops Q (o :: rest) a w := by
  obtain ⟨D, h1, h2, h3, h4, h5⟩ := hown
  obtain ⟨w', hrun, h6, h7⟩ := h1.update keyed41 Try.underlying53 (by simp only [maxLen]; omega) (key41 hh) (plainElem_bool Try.underlying4 true)
  refine wpList_plain hg fun K' hK' => ?_
  unfold Oper.wp
  have hc : a.eval (.const (.bool true)) = .bool true := rfl
  simp [execOp, hop, hm, hx, hc, hrun, Result.andThen]
  refine hK' _ _ (hK w' ⟨_, h6, h2.put isKey32 _, fun y hy => ?_, fun y hy => ?_, ?_⟩ h7)
  · by_cases e : y = h
    · subst e
      rw [Maps.atKey_put_same h2.isMap isKey32]
      simp
    · rw [Maps.atKey_put_other (by intro q; injection q with _ q; omega), h3 y hy]
      simp [e]
  · by_cases e : y = h
    · subst e
      rw [Maps.has_put_same h2.isMap isKey32]
      simp
    · rw [Maps.has_put_other (by intro q; injection q with _ q; omega), h4 y hy]
      simp [e]
  · rw [Maps.size_put h2, h4 h hh, h5]
/-- 'delete(m, h)'. -/
theorem wpList_unmark (hg : o.guard = none) (m x : Operand) (hop : o.op = Op.call { callee := Callee.builtin Builtin.delete, args := #[m, x], argTypes := #[53, 41] }) (b n : Nat) (M : Nat → Bool) (sz h : Nat) (hh : h < 4294967296)
    (hm : a.eval m = .map (some b)) (hx : a.eval x = .int .u32 h) (hown : Mp w b n M sz)
    (hK : ∀ w', Mp w' b n (fun y => !(y == h) && M y) (sz - (if M h then 1 else 0)) → w.grownBy w' (some b) → wpList Try.prog ops Q rest (a.put o.dst (.tuple #[])) w') : wpList Try.prog ops Q (o :: rest) a w := by
  obtain ⟨D, h1, h2, h3, h4, h5⟩ := hown
  refine wpList_delete_own w hg m x 53 41 hop 4 keyed41 Try.underlying53 _ b n D hm h1 _ _ hx (key41 hh) (fun w' h6 h7 => hK w' ⟨_, h6, h2.del _, fun y hy => ?_, fun y hy => ?_, ?_⟩ h7.grown)
  · by_cases e : y = h
    · subst e
      rw [Maps.atKey_del_same]
      simp
    · rw [Maps.atKey_del_other (by intro q; injection q with _ q; omega), h3 y hy]
      simp [e]
  · by_cases e : y = h
    · subst e
      rw [Maps.has_del_same]
      simp
    · rw [Maps.has_del_other (by intro q; injection q with _ q; omega), h4 y hy]
      simp [e]
  · have := Maps.size_del (k := Lit.int .u32 (h : Int)) h2
    rw [h4 h hh, h5] at this
    omega
/-- 'len(m)'. -/
theorem wpList_count (hg : o.guard = none) (m : Operand) (hop : o.op = Op.call { callee := Callee.builtin Builtin.len, args := #[m], argTypes := #[53] }) (b n : Nat) (M : Nat → Bool) (sz : Nat)
    (hm : a.eval m = .map (some b)) (hown : Mp w b n M sz) (hK : wpList Try.prog ops Q rest (a.put o.dst (.int .i64 sz)) w) : wpList Try.prog ops Q (o :: rest) a w := by
  obtain ⟨D, h1, h2, h3, h4, h5⟩ := hown
  refine wpList_len_own w hg m 53 hop 41 4 Try.underlying53 _ b n D hm h1 ?_
  rw [h5]
  exact hK
end

/-! The set of good handles. -/
theorem vb_iff {f g : Nat → Nat} {h : Nat} : vb f g h = true ↔ ∃ i, i < 32 ∧ g i = 1 ∧ h = 256 * f i + i + 1 := by
  unfold vb
  cases hr : rslot f g h 32 with
  | none =>
    simp only [Option.isSome_none, Bool.false_eq_true, false_iff]
    rintro ⟨i, hi, hg, hh⟩
    exact rslot_none hr i hi ⟨hg, by omega⟩
  | some i =>
    obtain ⟨h1, h2, h3⟩ := rslot_some hr
    simp only [Option.isSome_some, true_iff]
    exact ⟨i, h1, h2, by omega⟩
theorem mem_issued {f g : Nat → Nat} {h : Nat} : h ∈ issuedOf f g 32 ↔ vb f g h = true := by
  rw [vb_iff]
  unfold issuedOf
  simp only [List.mem_map, List.mem_filter, List.mem_range, decide_eq_true_eq]
  constructor
  · rintro ⟨i, ⟨h1, h2⟩, rfl⟩; exact ⟨i, h1, h2, rfl⟩
  · rintro ⟨i, h1, h2, rfl⟩; exact ⟨i, ⟨h1, h2⟩, rfl⟩
/-- How many handles are good among the first n slots'. -/
theorem issued_len (f g : Nat → Nat) (n : Nat) : (issuedOf f g n).length = ((List.range n).filter fun i => decide (g i = 1)).length := by simp [issuedOf]
theorem len_upd_on {f g : Nat → Nat} {i : Nat} (hg : g i ≠ 1) : ∀ n, (issuedOf f (upd g i 1) n).length = (issuedOf f g n).length + (if i < n then 1 else 0) := by
  intro n
  induction n with
  | zero => simp [issuedOf]
  | succ n ih =>
    rw [issuedOf_succ, issuedOf_succ, List.length_append, List.length_append, ih]
    by_cases e : n = i
    · subst e
      rw [upd_same, if_pos rfl, if_neg hg]
      simp
    · rw [upd_other _ _ e]
      by_cases h1 : i < n
      · have h2 : i < n + 1 := by omega
        simp only [h1, h2, if_true]
        omega
      · have h2 : ¬ i < n + 1 := by omega
        simp only [h1, h2, if_false]
        omega
theorem len_upd_off {f g : Nat → Nat} {i v : Nat} (hv : v ≠ 1) (hg : g i = 1) (f' : Nat → Nat) : ∀ n, (issuedOf f' (upd g i v) n).length + (if i < n then 1 else 0) = (issuedOf f g n).length := by
  intro n
  induction n with
  | zero => simp [issuedOf]
  | succ n ih =>
    rw [issuedOf_succ, issuedOf_succ, List.length_append, List.length_append]
    by_cases e : n = i
    · subst e
      rw [upd_same, if_neg hv, if_pos hg]
      simp at ih ⊢
      omega
    · rw [upd_other _ _ e]
      have el : (if g n = 1 then [256 * f' n + n + 1] else []).length = (if g n = 1 then [256 * f n + n + 1] else []).length := by split <;> rfl
      by_cases h1 : i < n
      · have h2 : i < n + 1 := by omega
        simp only [h1, h2, if_true] at ih ⊢
        omega
      · have h2 : ¬ i < n + 1 := by omega
        simp only [h1, h2, if_false] at ih ⊢
        omega

/-- Issue: one more. -/
theorem ig_free {g : Nat → Nat} {i : Nat} (h : freeAt g 32 = some i) : i < 32 ∧ g i = 0 := by
  unfold freeAt at h
  refine ⟨by have := List.mem_of_find?_eq_some h; simpa using this, ?_⟩
  have := List.find?_some h
  simpa using this
theorem vb_issue {f g : Nat → Nat} {i : Nat} (h : freeAt g 32 = some i) (y : Nat) : vb f (ig g) y = (y == ih f g || vb f g y) := by
  obtain ⟨hi, hg⟩ := ig_free h
  have e1 : ig g = upd g i 1 := by unfold ig; rw [h]
  have e2 : ih f g = 256 * f i + i + 1 := by unfold ih; rw [h]
  rw [Bool.eq_iff_iff, e1, e2]
  simp only [Bool.or_eq_true, beq_iff_eq, vb_iff]
  constructor
  · rintro ⟨j, h1, h2, h3⟩
    by_cases e : j = i
    · subst e; exact .inl h3
    · rw [upd_other _ _ e] at h2; exact .inr ⟨j, h1, h2, h3⟩
  · rintro (h1 | ⟨j, h1, h2, h3⟩)
    · exact ⟨i, hi, upd_same _ _ _, h1⟩
    · refine ⟨j, h1, ?_, h3⟩
      rw [upd_other]
      · exact h2
      · rintro rfl; omega
theorem len_issue {f g : Nat → Nat} {i : Nat} (h : freeAt g 32 = some i) : (issuedOf f (ig g) 32).length = (issuedOf f g 32).length + 1 := by
  obtain ⟨hi, hg⟩ := ig_free h
  have e1 : ig g = upd g i 1 := by unfold ig; rw [h]
  rw [e1, len_upd_on (by omega) 32, if_pos hi]
theorem vb_new {f g : Nat → Nat} {i : Nat} (h : freeAt g 32 = some i) : vb f g (ih f g) = false := by
  obtain ⟨hi, hg⟩ := ig_free h
  have e2 : ih f g = 256 * f i + i + 1 := by unfold ih; rw [h]
  rw [Bool.eq_false_iff]
  intro hv
  obtain ⟨j, h1, h2, h3⟩ := vb_iff.1 hv
  rw [e2] at h3
  have : j = i := by omega
  subst this
  omega
/-- Void: one less. -/
theorem vb_void {f g : Nat → Nat} (h y : Nat) : vb (vf f g h) (vg f g h) y = (!(y == h) && vb f g y) := by
  cases hr : rslot f g h 32 with
  | none =>
    rw [vf_none hr, vg_none hr]
    by_cases e : y = h
    · subst e
      have : vb f g (y : Int) = false := vb_none hr
      simp [this]
    · simp [e]
  | some i =>
    obtain ⟨hi, hg, hh⟩ := rslot_some hr
    have e1 : vg f g h = upd g i (if f i = 8388607 then 2 else 0) := by unfold vg; rw [hr]; show (if f i = 8388607 then upd g i 2 else upd g i 0) = _; split <;> rfl
    have e2 : ∀ j, j ≠ i → vf f g h j = f j := by
      intro j hj
      have : vf f g h = if f i = 8388607 then f else upd f i (f i + 1) := by unfold vf; rw [hr]
      rw [this]
      split
      · rfl
      · exact upd_other _ _ hj
    rw [Bool.eq_iff_iff, e1]
    simp only [Bool.and_eq_true, Bool.not_eq_true', beq_eq_false_iff_ne, vb_iff]
    constructor
    · rintro ⟨j, h1, h2, h3⟩
      by_cases e : j = i
      · subst e
        rw [upd_same] at h2
        split at h2 <;> omega
      · rw [upd_other _ _ e] at h2
        rw [e2 j e] at h3
        exact ⟨by omega, j, h1, h2, h3⟩
    · rintro ⟨h0, j, h1, h2, h3⟩
      have e : j ≠ i := by rintro rfl; omega
      exact ⟨j, h1, by rw [upd_other _ _ e]; exact h2, by rw [e2 j e]; exact h3⟩
theorem len_void {f g : Nat → Nat} (h : Nat) : (issuedOf (vf f g h) (vg f g h) 32).length = (issuedOf f g 32).length - (if vb f g h then 1 else 0) := by
  cases hr : rslot f g h 32 with
  | none =>
    rw [vf_none hr, vg_none hr, vb_none hr]
    rfl
  | some i =>
    obtain ⟨hi, hg, hh⟩ := rslot_some hr
    have e1 : vg f g h = upd g i (if f i = 8388607 then 2 else 0) := by unfold vg; rw [hr]; show (if f i = 8388607 then upd g i 2 else upd g i 0) = _; split <;> rfl
    rw [vb_some hr, e1]
    have := len_upd_off (f := f) (g := g) (i := i) (v := if f i = 8388607 then 2 else 0) (by split <;> omega) hg (vf f g h) 32
    rw [if_pos hi] at this
    simp only [if_true]
    omega
/-- What was issued is of an elder generation, or of this one and not free. -/
def Past (f g : Nat → Nat) (M : Nat → Bool) : Prop := ∀ h, M h = true → ∃ i a, i < 32 ∧ h = 256 * a + i + 1 ∧ (a < f i ∨ (a = f i ∧ g i ≠ 0))
theorem Past.new {f g : Nat → Nat} {M : Nat → Bool} (hp : Past f g M) {i : Nat} (h : freeAt g 32 = some i) : M (ih f g) = false := by
  obtain ⟨hi, hg⟩ := ig_free h
  have e2 : ih f g = 256 * f i + i + 1 := by unfold ih; rw [h]
  rw [Bool.eq_false_iff]
  intro hm
  obtain ⟨j, a, h1, h2, h3⟩ := hp _ hm
  rw [e2] at h2
  have : j = i := by omega
  subst this
  rcases h3 with h3 | ⟨h3, h4⟩ <;> omega
theorem Past.issue {f g : Nat → Nat} {M : Nat → Bool} (hp : Past f g M) {i : Nat} (h : freeAt g 32 = some i) : Past f (ig g) (fun y => y == ih f g || M y) := by
  obtain ⟨hi, hg⟩ := ig_free h
  have e1 : ig g = upd g i 1 := by unfold ig; rw [h]
  have e2 : ih f g = 256 * f i + i + 1 := by unfold ih; rw [h]
  intro y hy
  simp only [Bool.or_eq_true, beq_iff_eq] at hy
  rw [e1]
  rcases hy with hy | hy
  · exact ⟨i, f i, hi, by omega, .inr ⟨rfl, by rw [upd_same]; omega⟩⟩
  · obtain ⟨j, a, h1, h2, h3⟩ := hp y hy
    refine ⟨j, a, h1, h2, ?_⟩
    rcases h3 with h3 | ⟨h3, h4⟩
    · exact .inl h3
    · refine .inr ⟨h3, ?_⟩
      rw [upd_other]
      · exact h4
      · rintro rfl; omega
theorem Past.void {f g : Nat → Nat} {M : Nat → Bool} (hp : Past f g M) (h : Nat) : Past (vf f g h) (vg f g h) M := by
  cases hr : rslot f g h 32 with
  | none => rw [vf_none hr, vg_none hr]; exact hp
  | some i =>
    have e0 : vf f g h = if f i = 8388607 then f else upd f i (f i + 1) := by unfold vf; rw [hr]
    have e1 : vg f g h = if f i = 8388607 then upd g i 2 else upd g i 0 := by unfold vg; rw [hr]
    intro y hy
    obtain ⟨j, a, h1, h2, h3⟩ := hp y hy
    refine ⟨j, a, h1, h2, ?_⟩
    rw [e0, e1]
    by_cases hl : f i = 8388607
    · rw [if_pos hl, if_pos hl]
      rcases h3 with h3 | ⟨h3, h4⟩
      · exact .inl h3
      · refine .inr ⟨h3, ?_⟩
        unfold upd; split <;> omega
    · rw [if_neg hl, if_neg hl]
      by_cases e : j = i
      · subst e
        rw [upd_same]
        left; rcases h3 with h3 | ⟨h3, h4⟩ <;> omega
      · rw [upd_other _ _ e, upd_other _ _ e]
        exact h3
theorem good_any (f g : Nat → Nat) (h : Nat) (hf : ∀ j, f j ≤ 8388607) (h2 : h < 4294967296) (w : World) :
    Calls Try.prog 15 #[.agg (bk f g), .int .u32 h] w fun e w' => e = .returned (.bool (vb f g h)) ∧ Below w.heap.size w w' := by
  cases hr : rslot f g h 32 with
  | none => rw [vb_none hr]; exact good_f _ f g h rfl hf h2 hr w
  | some i => rw [vb_some hr]; exact good_t _ f g h i rfl hf hr w
end Go.Proofs.Ythocdeenpcpjoaa
